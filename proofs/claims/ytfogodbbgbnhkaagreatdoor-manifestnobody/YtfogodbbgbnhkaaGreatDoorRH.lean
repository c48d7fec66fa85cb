/- Rows that share no memory with others: slices.Clone; ownTab of the program. -/
import Derived.Test.YtfogodbbgbnhkaaGreatDoorRE
import Derived.Test.YtfogodbbgbnhkaaGreatDoorRD
import Derived.Deep.RegionHeld3
namespace Go.Proofs.YtfogodbbgbnhkaaGreatDoor
open Go.RowKit

/-- a new row of whatever there is -/
def CRes {α : Type} (E : TypeId) (s : Nat) (enc : α → List Value) (w : World) (l : List α) (e : Ending) (w' : World) : Prop := ∃ g c, e = .returned (.slice g l.length c) ∧ w'.ownsRow w.heap.size E s (.slice g l.length c) l.length (tcells enc l) ∧ Below w.heap.size w w'

set_option maxRecDepth 100000 in
set_option maxHeartbeats 400000 in
theorem rclone_z (a : Option Addr) (n c : Nat) (l : List (Int)) (w : World) (hn : n ≤ 1000000) (hr : ZRow w a n l) (hnil : a = none → n = 0 ∧ c = 0) :
    Calls Tryz.prog 65 #[.slice a n c] w (CRes 3 1 ze w l) := by
  obtain rfl := hr.1
  cases a with
  | none =>
    obtain ⟨h0, rfl⟩ := hnil rfl
    obtain rfl : l = [] := List.length_eq_zero_iff.mp h0
    go_enter Tryz.func65, Tryz.ntmps65
    go_wp2_with fail
    rw [Lib.run_eql_slice_nil _ 27 3 none _ 0 0 0 Tryz.underlying27]
    go_wp2
    go_ret
    exact ⟨none, 0, rfl, ⟨rfl, .inl ⟨rfl, rfl⟩⟩, Below.refl _ _⟩
  | some p =>
    have hr2 := hr.below (below_alloc w (.cells #[] 3)) (Nat.le_refl _)
    have hm0 := made_t (s := 1) (enc := ze) w (B := w.heap.size) (E := 3) (Nat.le_refl _) rfl
    obtain ⟨n, hn'⟩ : ∃ n, n = l.length := ⟨_, rfl⟩
    unfold CRes
    rw [← hn'] at hr hr2 hn ⊢
    clear hn' hnil
    go_enter Tryz.func65, Tryz.ntmps65
    go_wp2_with fail
    rw [Lib.run_eql_slice_nil _ 27 3 (some p) n c 0 0 Tryz.underlying27]
    go_wp2_with (at_builtin; go_must (refine append_t intZ zeE (w0 := w) (B := w.heap.size) rfl (.tmp 5) (.tmp 6) rfl _ 0 [] rfl hm0 (some p) n c l rfl hr2 (fun h => by cases h) (by omega) (below_alloc _ _) (by simp) ?_; intro A C w2 _ _ _ hown2 hbel2 _))
    rw [Nat.zero_add, List.nil_append] at hown2
    go_ret
    exact ⟨A, C, rfl, hown2, hbel2⟩

set_option maxRecDepth 100000 in
set_option maxHeartbeats 400000 in
theorem rclone_m (a : Option Addr) (n c : Nat) (l : List (Int × Int)) (w : World) (hn : n ≤ 1000000) (hr : MRow w a n l) (hnil : a = none → n = 0 ∧ c = 0) :
    Calls Tryz.prog 66 #[.slice a n c] w (CRes 64 2 me w l) := by
  obtain rfl := hr.1
  cases a with
  | none =>
    obtain ⟨h0, rfl⟩ := hnil rfl
    obtain rfl : l = [] := List.length_eq_zero_iff.mp h0
    go_enter Tryz.func66, Tryz.ntmps66
    go_wp2_with fail
    rw [Lib.run_eql_slice_nil _ 28 64 none _ 0 0 0 Tryz.underlying28]
    go_wp2
    go_ret
    exact ⟨none, 0, rfl, ⟨rfl, .inl ⟨rfl, rfl⟩⟩, Below.refl _ _⟩
  | some p =>
    have hr2 := hr.below (below_alloc w (.cells #[] 64)) (Nat.le_refl _)
    have hm0 := made_t (s := 2) (enc := me) w (B := w.heap.size) (E := 64) (Nat.le_refl _) rfl
    obtain ⟨n, hn'⟩ : ∃ n, n = l.length := ⟨_, rfl⟩
    unfold CRes
    rw [← hn'] at hr hr2 hn ⊢
    clear hn' hnil
    go_enter Tryz.func66, Tryz.ntmps66
    go_wp2_with fail
    rw [Lib.run_eql_slice_nil _ 28 64 (some p) n c 0 0 Tryz.underlying28]
    go_wp2_with (at_builtin; go_must (refine append_t moveE meE (w0 := w) (B := w.heap.size) rfl (.tmp 5) (.tmp 6) rfl _ 0 [] rfl hm0 (some p) n c l rfl hr2 (fun h => by cases h) (by omega) (below_alloc _ _) (by simp) ?_; intro A C w2 _ _ _ hown2 hbel2 _))
    rw [Nat.zero_add, List.nil_append] at hown2
    go_ret
    exact ⟨A, C, rfl, hown2, hbel2⟩

set_option maxRecDepth 100000 in
set_option maxHeartbeats 400000 in
theorem rclone_t (a : Option Addr) (n c : Nat) (l : List (Lv.T)) (w : World) (hn : n ≤ 1000000) (hr : LRow w a n l) (hnil : a = none → n = 0 ∧ c = 0) :
    Calls Tryz.prog 68 #[.slice a n c] w (CRes 50 5 le w l) := by
  obtain rfl := hr.1
  cases a with
  | none =>
    obtain ⟨h0, rfl⟩ := hnil rfl
    obtain rfl : l = [] := List.length_eq_zero_iff.mp h0
    go_enter Tryz.func68, Tryz.ntmps68
    go_wp2_with fail
    rw [Lib.run_eql_slice_nil _ 29 50 none _ 0 0 0 Tryz.underlying29]
    go_wp2
    go_ret
    exact ⟨none, 0, rfl, ⟨rfl, .inl ⟨rfl, rfl⟩⟩, Below.refl _ _⟩
  | some p =>
    have hr2 := hr.below (below_alloc w (.cells #[] 50)) (Nat.le_refl _)
    have hm0 := made_t (s := 5) (enc := le) w (B := w.heap.size) (E := 50) (Nat.le_refl _) rfl
    obtain ⟨n, hn'⟩ : ∃ n, n = l.length := ⟨_, rfl⟩
    unfold CRes
    rw [← hn'] at hr hr2 hn ⊢
    clear hn' hnil
    go_enter Tryz.func68, Tryz.ntmps68
    go_wp2_with fail
    rw [Lib.run_eql_slice_nil _ 29 50 (some p) n c 0 0 Tryz.underlying29]
    go_wp2_with (at_builtin; go_must (refine append_t tabE leE (w0 := w) (B := w.heap.size) rfl (.tmp 5) (.tmp 6) rfl _ 0 [] rfl hm0 (some p) n c l rfl hr2 (fun h => by cases h) (by omega) (below_alloc _ _) (by simp) ?_; intro A C w2 _ _ _ hown2 hbel2 _))
    rw [Nat.zero_add, List.nil_append] at hown2
    go_ret
    exact ⟨A, C, rfl, hown2, hbel2⟩

set_option maxRecDepth 100000 in
set_option maxHeartbeats 400000 in
theorem rclone_k (a : Option Addr) (n c : Nat) (l : List (Int × Int × Int)) (w : World) (hn : n ≤ 1000000) (hr : KRow w a n l) (hnil : a = none → n = 0 ∧ c = 0) :
    Calls Tryz.prog 67 #[.slice a n c] w (CRes 66 3 ke w l) := by
  obtain rfl := hr.1
  cases a with
  | none =>
    obtain ⟨h0, rfl⟩ := hnil rfl
    obtain rfl : l = [] := List.length_eq_zero_iff.mp h0
    go_enter Tryz.func67, Tryz.ntmps67
    go_wp2_with fail
    rw [Lib.run_eql_slice_nil _ 30 66 none _ 0 0 0 Tryz.underlying30]
    go_wp2
    go_ret
    exact ⟨none, 0, rfl, ⟨rfl, .inl ⟨rfl, rfl⟩⟩, Below.refl _ _⟩
  | some p =>
    have hr2 := hr.below (below_alloc w (.cells #[] 66)) (Nat.le_refl _)
    have hm0 := made_t (s := 3) (enc := ke) w (B := w.heap.size) (E := 66) (Nat.le_refl _) rfl
    obtain ⟨n, hn'⟩ : ∃ n, n = l.length := ⟨_, rfl⟩
    unfold CRes
    rw [← hn'] at hr hr2 hn ⊢
    clear hn' hnil
    go_enter Tryz.func67, Tryz.ntmps67
    go_wp2_with fail
    rw [Lib.run_eql_slice_nil _ 30 66 (some p) n c 0 0 Tryz.underlying30]
    go_wp2_with (at_builtin; go_must (refine append_t stillE keE (w0 := w) (B := w.heap.size) rfl (.tmp 5) (.tmp 6) rfl _ 0 [] rfl hm0 (some p) n c l rfl hr2 (fun h => by cases h) (by omega) (below_alloc _ _) (by simp) ?_; intro A C w2 _ _ _ hown2 hbel2 _))
    rw [Nat.zero_add, List.nil_append] at hown2
    go_ret
    exact ⟨A, C, rfl, hown2, hbel2⟩

theorem set34 {W : World} {p : Nat} {u v : Value} (l3 : W.cell? ⟨p, 3, none⟩ = some u) (l4 : W.cell? ⟨p, 4, none⟩ = some v) :
    (W.setCell ⟨p, 3, none⟩ u).cell? ⟨p, 3, none⟩ = some u ∧ (W.setCell ⟨p, 3, none⟩ u).cell? ⟨p, 4, none⟩ = some v ∧ ((W.setCell ⟨p, 3, none⟩ u).setCell ⟨p, 4, none⟩ v).cell? ⟨p, 3, none⟩ = some u ∧ ((W.setCell ⟨p, 3, none⟩ u).setCell ⟨p, 4, none⟩ v).cell? ⟨p, 4, none⟩ = some v := by
  have s3 : (W.setCell ⟨p, 3, none⟩ u).cell? ⟨p, 3, none⟩ = some u := World.cell?_setCell_same' _ _ _ (by rw [l3]; rfl)
  have s4 : (W.setCell ⟨p, 3, none⟩ u).cell? ⟨p, 4, none⟩ = some v := (World.cell?_setCell_other _ _ _ _ (by simp)).trans l4
  exact ⟨s3, s4, (World.cell?_setCell_other _ _ _ _ (by simp)).trans s3, World.cell?_setCell_same' _ _ _ (by rw [s4]; rfl)⟩

theorem put5 {w W : World} {g : Nat} {u0 u1 u2 u3 u4 v0 v1 v2 v3 v4 : Value} {B : Nat} (h0 : W.cell? ⟨g, 0, none⟩ = some u0) (h1 : W.cell? ⟨g, 1, none⟩ = some u1) (h2 : W.cell? ⟨g, 2, none⟩ = some u2) (h3 : W.cell? ⟨g, 3, none⟩ = some u3) (h4 : W.cell? ⟨g, 4, none⟩ = some u4) (hg : B ≤ g) (hb : Below B w W) :
    let W4 := ((((W.setCell ⟨g, 0, none⟩ v0).setCell ⟨g, 1, none⟩ v1).setCell ⟨g, 2, none⟩ v2).setCell ⟨g, 3, none⟩ v3).setCell ⟨g, 4, none⟩ v4
    W4.cell? ⟨g, 0, none⟩ = some v0 ∧ W4.cell? ⟨g, 1, none⟩ = some v1 ∧ W4.cell? ⟨g, 2, none⟩ = some v2 ∧ W4.cell? ⟨g, 3, none⟩ = some v3 ∧ W4.cell? ⟨g, 4, none⟩ = some v4 ∧ Below B w W4 := by
  have o : ∀ (V : World) (i j : Nat) (v : Value), i ≠ j → (V.setCell ⟨g, i, none⟩ v).cell? ⟨g, j, none⟩ = V.cell? ⟨g, j, none⟩ := fun V i j v h => World.cell?_setCell_other _ _ _ _ (fun e => h (Addr.mk.inj e).2.1)
  intro W4
  refine ⟨?_, ?_, ?_, ?_, ?_, ?_⟩
  · show World.cell? (World.setCell _ _ _) _ = _
    rw [o _ _ _ _ (by decide), o _ _ _ _ (by decide), o _ _ _ _ (by decide), o _ _ _ _ (by decide)]
    exact World.cell?_setCell_same' _ _ _ (by rw [h0]; rfl)
  · show World.cell? (World.setCell _ _ _) _ = _
    rw [o _ _ _ _ (by decide), o _ _ _ _ (by decide), o _ _ _ _ (by decide)]
    exact World.cell?_setCell_same' _ _ _ (by rw [o _ _ _ _ (by decide), h1]; rfl)
  · show World.cell? (World.setCell _ _ _) _ = _
    rw [o _ _ _ _ (by decide), o _ _ _ _ (by decide)]
    exact World.cell?_setCell_same' _ _ _ (by rw [o _ _ _ _ (by decide), o _ _ _ _ (by decide), h2]; rfl)
  · show World.cell? (World.setCell _ _ _) _ = _
    rw [o _ _ _ _ (by decide)]
    exact World.cell?_setCell_same' _ _ _ (by rw [o _ _ _ _ (by decide), o _ _ _ _ (by decide), o _ _ _ _ (by decide), h3]; rfl)
  · exact World.cell?_setCell_same' _ _ _ (by rw [o _ _ _ _ (by decide), o _ _ _ _ (by decide), o _ _ _ _ (by decide), o _ _ _ _ (by decide), h4]; rfl)
  · exact below_putB (below_putB (below_putB (below_putB (below_putB hb hg _ _) hg _ _) hg _ _) hg _ _) hg _ _

set_option maxRecDepth 100000 in
set_option maxHeartbeats 400000 in
theorem sclone_any (s : ByteArray) (hs : s.size ≤ 1000000) (w : World) : Calls Tryz.prog 126 #[.string s] w fun e w' => e = .returned (.string s) ∧ Below w.heap.size w w' := by
  have hc := Tryz.stringslite_Clone s w (by omega)
  go_enter Tryz.func126, Tryz.ntmps126
  go_wp2_with (go_at_call 171; go_must (refine hc.mono ?_; rintro e w1 ⟨rfl, hb⟩))
  go_ret
  exact ⟨rfl, hb⟩

set_option maxRecDepth 100000 in
set_option maxHeartbeats 2000000 in
theorem rowntab_any (x1 x2 x3 : Int) (x4 x5 : ByteArray) (h4 : x4.size ≤ 1000000) (h5 : x5.size ≤ 1000000) (w : World) : Calls Tryz.prog 69 #[.agg #[.int .i64 x1, .int .i64 x2, .int .i64 x3, .string x4, .string x5]] w fun e w' => e = .returned (.agg #[.int .i64 x1, .int .i64 x2, .int .i64 x3, .string x4, .string x5]) ∧ Below w.heap.size w w' := by
  have hcl4 := fun W => sclone_any x4 h4 W
  have hcl5 := fun W => sclone_any x5 h5 W
  obtain ⟨W0, hW0⟩ : ∃ W0, W0 = (w.alloc (.cells #[.int .i64 x1, .int .i64 x2, .int .i64 x3, .string x4, .string x5] 50)).alloc (.cells #[.int .i64 0, .int .i64 0, .int .i64 0, .string ⟨#[]⟩, .string ⟨#[]⟩] 50) := ⟨_, rfl⟩
  have hb0 : Below w.heap.size w W0 := by rw [hW0]; exact below_two _ _ _
  have e0 : W0.heap[w.heap.size]? = some (.cells #[.int .i64 x1, .int .i64 x2, .int .i64 x3, .string x4, .string x5] 50 (0, 0)) := by
    rw [hW0]; exact (Below.heap_alloc _ _ _ (by simp)).trans (heap_alloc_new _ _)
  have e1 : W0.heap[w.heap.size + 1]? = some (.cells #[.int .i64 0, .int .i64 0, .int .i64 0, .string ⟨#[]⟩, .string ⟨#[]⟩] 50 (0, 0)) := by
    rw [hW0]; have := heap_alloc_new (w.alloc (.cells #[.int .i64 x1, .int .i64 x2, .int .i64 x3, .string x4, .string x5] 50)) (.cells #[.int .i64 0, .int .i64 0, .int .i64 0, .string ⟨#[]⟩, .string ⟨#[]⟩] 50); rwa [World.size_alloc] at this
  have HV : Hid (∀ W, Below W0.heap.size W0 W → W.cell? ⟨w.heap.size, 3, none⟩ = some (.string x4) ∧ W.cell? ⟨w.heap.size, 4, none⟩ = some (.string x5)) := (fun W h => by
    have k := (blkc ((h.block _ (ob_ltB e0)).trans e0)).1
    exact ⟨k 3, k 4⟩ : ∀ W, Below W0.heap.size W0 W → W.cell? ⟨w.heap.size, 3, none⟩ = some (.string x4) ∧ W.cell? ⟨w.heap.size, 4, none⟩ = some (.string x5))
  obtain ⟨m3, m4⟩ := HV.out W0 (Below.refl _ _)
  have tok : Hid (0 = 0) := (rfl : 0 = 0)
  go_enter Tryz.func69, Tryz.ntmps69
  go_wp2_with fail
  rw [← hW0]
  have HW0 : Hid (W0 = _) := hW0
  have E0 : Hid (W0.heap[w.heap.size]? = _) := e0
  have E1 : Hid (W0.heap[w.heap.size + 1]? = _) := e1
  clear hW0 e0 e1
  go_region_held3 (fun W => W.cell? ⟨w.heap.size, 3, none⟩ = some (.string x4) ∧ W.cell? ⟨w.heap.size, 4, none⟩ = some (.string x5)) (first | go_keep | (refine ⟨?_, ?_⟩ <;> assumption))
    (first
      | (go_at_call 126; clear tok; refine (hcl4 _).mono ?_; rintro e w1 ⟨rfl, b1⟩; have hb1 := below_of_drew b1; obtain ⟨k3, k4⟩ := HV.out w1 hb1)
      | (go_at_call 126; refine (hcl5 _).mono ?_; rintro e w2 ⟨rfl, b2⟩; have hb2 := hb1.trans (b2.mono hb1.size); obtain ⟨l3, l4⟩ := HV.out w2 hb2; have fz3 := (blkc ((hb2.block _ (ob_ltB E0.out)).trans E0.out)).2 3; have fz4 := (blkc ((hb2.block _ (ob_ltB E0.out)).trans E0.out)).2 4; obtain ⟨s3, s4, t3, t4⟩ := set34 l3 l4))
  obtain ⟨W3, hW3⟩ : ∃ W3, W3 = (w2.setCell ⟨w.heap.size, 3, none⟩ (.string x4)).setCell ⟨w.heap.size, 4, none⟩ (.string x5) := ⟨_, rfl⟩
  rw [← hW3]
  have hb3 : Below w.heap.size w W3 := by
    rw [hW3]
    exact below_putB (below_putB (hb0.trans (hb2.mono hb0.size)) (Nat.le_refl _) _ _) (Nat.le_refl _) _ _
  have z0 := (blkc ((hb2.block _ (ob_ltB E0.out)).trans E0.out)).1
  have y0 : W3.cell? ⟨w.heap.size, 0, none⟩ = some (.int .i64 x1) := by rw [hW3, World.cell?_setCell_other _ _ _ _ (by simp), World.cell?_setCell_other _ _ _ _ (by simp)]; exact z0 0
  have y1 : W3.cell? ⟨w.heap.size, 1, none⟩ = some (.int .i64 x2) := by rw [hW3, World.cell?_setCell_other _ _ _ _ (by simp), World.cell?_setCell_other _ _ _ _ (by simp)]; exact z0 1
  have y2 : W3.cell? ⟨w.heap.size, 2, none⟩ = some (.int .i64 x3) := by rw [hW3, World.cell?_setCell_other _ _ _ _ (by simp), World.cell?_setCell_other _ _ _ _ (by simp)]; exact z0 2
  have y3 : W3.cell? ⟨w.heap.size, 3, none⟩ = some (.string x4) := by rw [hW3]; exact t3
  have y4 : W3.cell? ⟨w.heap.size, 4, none⟩ = some (.string x5) := by rw [hW3]; exact t4
  have hr1 : W3.heap[w.heap.size + 1]? = some (.cells #[.int .i64 0, .int .i64 0, .int .i64 0, .string ⟨#[]⟩, .string ⟨#[]⟩] 50 (0, 0)) := by
    rw [hW3]
    exact (Below.heap_setCell _ _ _ _ (by simp)).trans ((Below.heap_setCell _ _ _ _ (by simp)).trans ((hb2.block _ (ob_ltB E1.out)).trans E1.out))
  obtain ⟨r0, r1⟩ := blkc hr1
  have r00 := r0 0
  have r01 := r0 1
  have r02 := r0 2
  have r03 := r0 3
  have r04 := r0 4
  have HB3 : Hid (Below w.heap.size w W3) := hb3
  clear hW3 hr1 r0 z0 s3 s4 t3 t4 l3 l4 k3 k4 m3 m4 hb3 hb2 hb1 b1 b2 E0 E1 HV HW0 fz3 fz4
  go_wp2
  obtain ⟨q0, q1, q2, q3, q4, hbq⟩ := put5 (w := w) r00 r01 r02 r03 r04 (by omega) HB3.out (v0 := .int .i64 x1) (v1 := .int .i64 x2) (v2 := .int .i64 x3) (v3 := .string x4) (v4 := .string x5)
  refine bodyPost_ret (v := .agg #[.int .i64 x1, .int .i64 x2, .int .i64 x3, .string x4, .string x5]) (by simp [results, Tryz.results69, go_sem, q0, q1, q2, q3, q4]) rfl ⟨rfl, hbq⟩
end Go.Proofs.YtfogodbbgbnhkaaGreatDoor

/- own of the program: a roster that shares no memory. -/
namespace Go.Proofs.YtfogodbbgbnhkaaGreatDoor
open Go.RowKit

theorem bput {W : World} {g i : Nat} {cs cs' : Array Value} {e : TypeId} (h : W.heap[g]? = some (.cells cs e (0, 0))) (v : Value) (hc : cs.setIfInBounds i v = cs') : (W.setCell ⟨g, i, none⟩ v).heap[g]? = some (.cells cs' e (0, 0)) := by
  subst hc
  have hg := ob_ltB h
  simp only [World.setCell]
  simp [h, Array.getElem?_modify]
theorem set_same {xs : List Value} {i : Nat} {v : Value} (h : xs[i]? = some v) : xs.set i v = xs := by
  apply List.ext_getElem?
  intro j
  rw [List.getElem?_set]
  split
  · next e => subst e; rw [h]; split
              · rfl
              · next hn => rw [List.getElem?_eq_none (by omega)] at h; cases h
  · rfl
theorem town_g {w : World} {B E s n c : Nat} {a : Option Addr} {xs : List Value} (h : w.ownsRow B E s (.slice a n c) n xs) (hn : 0 < n) : ∃ g, a = some ⟨g, 0, none⟩ := by
  rcases h.2 with ⟨e, h0⟩ | ⟨g, cap, cur, e, _⟩
  · omega
  · simp only [Value.slice.injEq] at e; exact ⟨g, e.1⟩
theorem town5 {k : Nat} {l : List Lv.T} (hk : k < l.length) :
    ∃ x1 x2 x3 x4 x5, Hid (l.getD k Lv.zero = ⟨x1, x2, x3, x4, x5⟩) ∧ ((tcells le l)[k * 5]? = some (.int .i64 x1) ∧ (tcells le l)[k * 5 + 1]? = some (.int .i64 x2) ∧ (tcells le l)[k * 5 + 2]? = some (.int .i64 x3) ∧ (tcells le l)[k * 5 + 3]? = some (.string x4) ∧ (tcells le l)[k * 5 + 4]? = some (.string x5)) := by
  have hg := fun j hj => tcells_get (d := Lv.zero) leE l k j hk hj
  generalize l.getD k Lv.zero = x at hg
  obtain ⟨x1, x2, x3, x4, x5⟩ := x
  exact ⟨x1, x2, x3, x4, x5, (rfl : _ = _), hg 0 (by omega), hg 1 (by omega), hg 2 (by omega), hg 3 (by omega), hg 4 (by omega)⟩
theorem own_set5 {w : World} {B E s g n c k : Nat} {xs : List Value} {v0 v1 v2 v3 v4 : Value} (h : w.ownsRow B E s (.slice (some ⟨g, 0, none⟩) n c) n xs) (h0 : xs[k]? = some v0) (h1 : xs[k + 1]? = some v1) (h2 : xs[k + 2]? = some v2) (h3 : xs[k + 3]? = some v3) (h4 : xs[k + 4]? = some v4) :
    (((((w.setCell ⟨g, k, none⟩ v0).setCell ⟨g, k + 1, none⟩ v1).setCell ⟨g, k + 2, none⟩ v2).setCell ⟨g, k + 3, none⟩ v3).setCell ⟨g, k + 4, none⟩ v4).ownsRow B E s (.slice (some ⟨g, 0, none⟩) n c) n xs := by
  have a0 := own_store h k v0
  rw [set_same h0] at a0
  have a1 := own_store a0 (k + 1) v1
  rw [set_same h1] at a1
  have a2 := own_store a1 (k + 2) v2
  rw [set_same h2] at a2
  have a3 := own_store a2 (k + 3) v3
  rw [set_same h3] at a3
  have a4 := own_store a3 (k + 4) v4
  rwa [set_same h4] at a4

/-- the rows of a roster, the call's own -/
structure ROwn (B : Nat) (w : World) (a1 : Option Addr) (n1 c1 : Nat) (a2 : Option Addr) (n2 c2 : Nat) (a3 : Option Addr) (n3 c3 : Nat) (a4 : Option Addr) (n4 c4 : Nat) (r : Ro.R) : Prop where
  o1 : w.ownsRow B 3 1 (.slice a1 n1 c1) n1 (tcells ze r.segs)
  o2 : w.ownsRow B 64 2 (.slice a2 n2 c2) n2 (tcells me r.moves)
  o3 : w.ownsRow B 50 5 (.slice a3 n3 c3) n3 (tcells le r.tabs)
  o4 : w.ownsRow B 66 3 (.slice a4 n4 c4) n4 (tcells ke r.stills)
/-- the rows of a roster, anybody's -/
structure RIn (w : World) (a1 : Option Addr) (n1 c1 : Nat) (a2 : Option Addr) (n2 c2 : Nat) (a3 : Option Addr) (n3 c3 : Nat) (a4 : Option Addr) (n4 c4 : Nat) (r : Ro.R) : Prop where
  r1 : ZRow w a1 n1 r.segs
  r2 : MRow w a2 n2 r.moves
  r3 : LRow w a3 n3 r.tabs
  r4 : KRow w a4 n4 r.stills
  z1 : a1 = none → n1 = 0 ∧ c1 = 0
  z2 : a2 = none → n2 = 0 ∧ c2 = 0
  z3 : a3 = none → n3 = 0 ∧ c3 = 0
  z4 : a4 = none → n4 = 0 ∧ c4 = 0
  m1 : n1 ≤ 1000
  m2 : n2 ≤ 1000
  m3 : n3 ≤ 1000
  m4 : n4 ≤ 1000
  c3 : n3 ≤ c3
  texts : ∀ t ∈ r.tabs, t.first.size ≤ 1000 ∧ t.last.size ≤ 1000
theorem ROwn.len {B : Nat} {w : World} {a1 : Option Addr} {n1 c1 : Nat} {a2 : Option Addr} {n2 c2 : Nat} {a3 : Option Addr} {n3 c3 : Nat} {a4 : Option Addr} {n4 c4 : Nat} {r : Ro.R} (h : ROwn B w a1 n1 c1 a2 n2 c2 a3 n3 c3 a4 n4 c4 r) : r.segs.length = n1 ∧ r.moves.length = n2 ∧ r.tabs.length = n3 ∧ r.stills.length = n4 := by
  have l1 := h.o1.1; have l2 := h.o2.1; have l3 := h.o3.1; have l4 := h.o4.1
  rw [tcells_length zeE] at l1; rw [tcells_length meE] at l2; rw [tcells_length leE] at l3; rw [tcells_length keE] at l4
  omega
theorem ROwn.kept {B : Nat} {w w' : World} {a1 : Option Addr} {n1 c1 : Nat} {a2 : Option Addr} {n2 c2 : Nat} {a3 : Option Addr} {n3 c3 : Nat} {a4 : Option Addr} {n4 c4 : Nat} {r : Ro.R} (h : ROwn B w a1 n1 c1 a2 n2 c2 a3 n3 c3 a4 n4 c4 r) (hb : Below w.heap.size w w') : ROwn B w' a1 n1 c1 a2 n2 c2 a3 n3 c3 a4 n4 c4 r :=
  ⟨own_keptB h.o1 hb, own_keptB h.o2 hb, own_keptB h.o3 hb, own_keptB h.o4 hb⟩
theorem ROwn.other {B p : Nat} {w w' : World} {a1 : Option Addr} {n1 c1 : Nat} {a2 : Option Addr} {n2 c2 : Nat} {a3 : Option Addr} {n3 c3 : Nat} {a4 : Option Addr} {n4 c4 : Nat} {r : Ro.R} {cs : Array Value} {fz : Nat × Nat} (h : ROwn B w a1 n1 c1 a2 n2 c2 a3 n3 c3 a4 n4 c4 r) (hp : w.heap[p]? = some (.cells cs 34 fz)) (hg : w.grownBy w' (some p)) : ROwn B w' a1 n1 c1 a2 n2 c2 a3 n3 c3 a4 n4 c4 r :=
  ⟨h.o1.kept hg (.inr (obr_apart hp h.o1 (by decide)).symm), h.o2.kept hg (.inr (obr_apart hp h.o2 (by decide)).symm), h.o3.kept hg (.inr (obr_apart hp h.o3 (by decide)).symm), h.o4.kept hg (.inr (obr_apart hp h.o4 (by decide)).symm)⟩
theorem below_grownB {B : Nat} {w W W' : World} {row : Option Nat} (h : Below B w W) (hg : W.grownBy W' row) (hB : B ≤ W.heap.size) (hr : ∀ k, row = some k → B ≤ k) : Below B w W' := h.grown hg hB hr
theorem ROwn.rin {B : Nat} {w : World} {a1 : Option Addr} {n1 c1 : Nat} {a2 : Option Addr} {n2 c2 : Nat} {a3 : Option Addr} {n3 c3 : Nat} {a4 : Option Addr} {n4 c4 : Nat} {r : Ro.R} (h : ROwn B w a1 n1 c1 a2 n2 c2 a3 n3 c3 a4 n4 c4 r) (m1 : n1 ≤ 1000) (m2 : n2 ≤ 1000) (m3 : n3 ≤ 1000) (m4 : n4 ≤ 1000) (ht : ∀ t ∈ r.tabs, t.first.size ≤ 1000 ∧ t.last.size ≤ 1000) : RIn w a1 n1 c1 a2 n2 c2 a3 n3 c3 a4 n4 c4 r := by
  have nil : ∀ {E s n c : Nat} {a : Option Addr} {xs : List Value}, w.ownsRow B E s (.slice a n c) n xs → (a = none → n = 0 ∧ c = 0) ∧ n ≤ c := fun {E s n c a xs} ho => by
    obtain ⟨a', c', e, h1, h2⟩ := t_shape ho
    simp only [Value.slice.injEq] at e
    obtain ⟨rfl, _, rfl⟩ := e
    exact ⟨h1, h2⟩
  exact ⟨trow_of_owns zeE h.o1 (by omega) (by omega), trow_of_owns meE h.o2 (by omega) (by omega), trow_of_owns leE h.o3 (by omega) (by omega), trow_of_owns keE h.o4 (by omega) (by omega), (nil h.o1).1, (nil h.o2).1, (nil h.o3).1, (nil h.o4).1, m1, m2, m3, m4, (nil h.o3).2, ht⟩
end Go.Proofs.YtfogodbbgbnhkaaGreatDoor

/- own of the program. -/
namespace Go.Proofs.YtfogodbbgbnhkaaGreatDoor
open Go.RowKit

theorem off5 {w5 : World} {p q g k : Nat} {v0 v1 v2 v3 v4 a b0 b1 b2 b3 b4 : Value} (W : World) (hp : ¬ (p = g)) (hq : ¬ (g = q))
    (h : w5.cell? ⟨p, 2, none⟩ = some a ∧ w5.cell? ⟨q, 0, none⟩ = some b0 ∧ w5.cell? ⟨q, 1, none⟩ = some b1 ∧ w5.cell? ⟨q, 2, none⟩ = some b2 ∧ w5.cell? ⟨q, 3, none⟩ = some b3 ∧ w5.cell? ⟨q, 4, none⟩ = some b4)
    (hW : W = ((((w5.setCell ⟨g, k, none⟩ v0).setCell ⟨g, k + 1, none⟩ v1).setCell ⟨g, k + 2, none⟩ v2).setCell ⟨g, k + 3, none⟩ v3).setCell ⟨g, k + 4, none⟩ v4) :
    W.cell? ⟨p, 2, none⟩ = some a ∧ W.cell? ⟨q, 0, none⟩ = some b0 ∧ W.cell? ⟨q, 1, none⟩ = some b1 ∧ W.cell? ⟨q, 2, none⟩ = some b2 ∧ W.cell? ⟨q, 3, none⟩ = some b3 ∧ W.cell? ⟨q, 4, none⟩ = some b4 := by
  have o : ∀ (V : World) (i b j : Nat) (v : Value), ¬ (g = b) → (V.setCell ⟨g, i, none⟩ v).cell? ⟨b, j, none⟩ = V.cell? ⟨b, j, none⟩ := fun V i b j v h => World.cell?_setCell_other _ _ _ _ (fun e => h (Addr.mk.inj e).1)
  subst hW
  have hp' : ¬ (g = p) := fun e => hp e.symm
  refine ⟨?_, ?_, ?_, ?_, ?_, ?_⟩
  · rw [o _ _ _ _ _ hp', o _ _ _ _ _ hp', o _ _ _ _ _ hp', o _ _ _ _ _ hp', o _ _ _ _ _ hp']; exact h.1
  · rw [o _ _ _ _ _ hq, o _ _ _ _ _ hq, o _ _ _ _ _ hq, o _ _ _ _ _ hq, o _ _ _ _ _ hq]; exact h.2.1
  · rw [o _ _ _ _ _ hq, o _ _ _ _ _ hq, o _ _ _ _ _ hq, o _ _ _ _ _ hq, o _ _ _ _ _ hq]; exact h.2.2.1
  · rw [o _ _ _ _ _ hq, o _ _ _ _ _ hq, o _ _ _ _ _ hq, o _ _ _ _ _ hq, o _ _ _ _ _ hq]; exact h.2.2.2.1
  · rw [o _ _ _ _ _ hq, o _ _ _ _ _ hq, o _ _ _ _ _ hq, o _ _ _ _ _ hq, o _ _ _ _ _ hq]; exact h.2.2.2.2.1
  · rw [o _ _ _ _ _ hq, o _ _ _ _ _ hq, o _ _ _ _ _ hq, o _ _ _ _ _ hq, o _ _ _ _ _ hq]; exact h.2.2.2.2.2

def ROwnRes (r : Ro.R) (n1 n2 n3 n4 : Nat) (w : World) (e : Ending) (w' : World) : Prop :=
  ∃ A1 C1 A2 C2 A3 C3 A4 C4, e = .returned (.agg #[.slice A1 n1 C1, .slice A2 n2 C2, .slice A3 n3 C3, .slice A4 n4 C4, .int .i64 r.log, .int .i64 r.index, .int .i64 r.term, .int .i64 r.ht, .int .i64 r.hv, .int .i64 r.hc, .int .i64 r.mark]) ∧ ROwn w.heap.size w' A1 n1 C1 A2 n2 C2 A3 n3 C3 A4 n4 C4 r ∧ Below w.heap.size w w'

set_option maxRecDepth 100000 in
set_option maxHeartbeats 4000000 in
theorem rown_any (s : List Int) (ms : List (Int × Int)) (ts : List Lv.T) (ks : List (Int × Int × Int)) (a1 : Option Addr) (n1 c1 : Nat) (a2 : Option Addr) (n2 c2 : Nat) (a3 : Option Addr) (n3 c3 : Nat) (a4 : Option Addr) (n4 c4 : Nat) (i1 i2 i3 i4 i5 i6 i7 : Int) (w : World) (h : RIn w a1 n1 c1 a2 n2 c2 a3 n3 c3 a4 n4 c4 ⟨s, ms, ts, ks, i1, i2, i3, i4, i5, i6, i7⟩) :
    Calls Tryz.prog 31 #[.agg #[.slice a1 n1 c1, .slice a2 n2 c2, .slice a3 n3 c3, .slice a4 n4 c4, .int .i64 i1, .int .i64 i2, .int .i64 i3, .int .i64 i4, .int .i64 i5, .int .i64 i6, .int .i64 i7]] w (ROwnRes ⟨s, ms, ts, ks, i1, i2, i3, i4, i5, i6, i7⟩ n1 n2 n3 n4 w) := by
  obtain ⟨r1, r2, r3, r4, z1, z2, z3, z4, m1, m2, m3, m4, mc3, htx⟩ := h
  dsimp only at r1 r2 r3 r4 htx
  have k1 := fun W hW => rclone_z a1 n1 c1 s W (by omega) (r1.below hW (Nat.le_refl _)) z1
  have k2 := fun W hW => rclone_m a2 n2 c2 ms W (by omega) (r2.below hW (Nat.le_refl _)) z2
  have k3 := fun W hW => rclone_t a3 n3 c3 ts W (by omega) (r3.below hW (Nat.le_refl _)) z3
  have k4 := fun W hW => rclone_k a4 n4 c4 ks W (by omega) (r4.below hW (Nat.le_refl _)) z4
  unfold CRes at k1 k2 k3 k4
  have L1 := r1.1
  have L2 := r2.1
  have L3 := r3.1
  have L4 := r4.1
  rw [L1] at k1
  rw [L2] at k2
  rw [L3] at k3
  rw [L4] at k4
  have HL : Hid (ts.length = n3) := L3
  have HT : Hid (∀ t ∈ ts, t.first.size ≤ 1000 ∧ t.last.size ≤ 1000) := htx
  clear r1 r2 r3 r4 z1 z2 z3 z4 L1 L2 L3 L4 htx
  obtain ⟨W0, hW0⟩ : ∃ W0, W0 = (w.alloc (.cells #[.slice a1 n1 c1, .slice a2 n2 c2, .slice a3 n3 c3, .slice a4 n4 c4, .int .i64 i1, .int .i64 i2, .int .i64 i3, .int .i64 i4, .int .i64 i5, .int .i64 i6, .int .i64 i7] 34)).alloc (.cells #[.slice none 0 0, .slice none 0 0, .slice none 0 0, .slice none 0 0, .int .i64 0, .int .i64 0, .int .i64 0, .int .i64 0, .int .i64 0, .int .i64 0, .int .i64 0] 34) := ⟨_, rfl⟩
  have hb0 : Below w.heap.size w W0 := by rw [hW0]; exact below_two _ _ _
  obtain ⟨p, hp⟩ : ∃ p, p = w.heap.size := ⟨_, rfl⟩
  have e0 : W0.heap[p]? = some (.cells #[.slice a1 n1 c1, .slice a2 n2 c2, .slice a3 n3 c3, .slice a4 n4 c4, .int .i64 i1, .int .i64 i2, .int .i64 i3, .int .i64 i4, .int .i64 i5, .int .i64 i6, .int .i64 i7] 34 (0, 0)) := by
    rw [hW0, hp]; exact (Below.heap_alloc _ _ _ (by simp)).trans (heap_alloc_new _ _)
  have e1 : W0.heap[p + 1]? = some (.cells #[.slice none 0 0, .slice none 0 0, .slice none 0 0, .slice none 0 0, .int .i64 0, .int .i64 0, .int .i64 0, .int .i64 0, .int .i64 0, .int .i64 0, .int .i64 0] 34 (0, 0)) := by
    rw [hW0, hp]; have := heap_alloc_new (w.alloc (.cells #[.slice a1 n1 c1, .slice a2 n2 c2, .slice a3 n3 c3, .slice a4 n4 c4, .int .i64 i1, .int .i64 i2, .int .i64 i3, .int .i64 i4, .int .i64 i5, .int .i64 i6, .int .i64 i7] 34)) (.cells #[.slice none 0 0, .slice none 0 0, .slice none 0 0, .slice none 0 0, .int .i64 0, .int .i64 0, .int .i64 0, .int .i64 0, .int .i64 0, .int .i64 0, .int .i64 0] 34); rwa [World.size_alloc] at this
  have hpp : ¬ (p + 1 = p) := by omega
  have E0 : Hid (W0.heap[p]? = some (.cells #[.slice a1 n1 c1, .slice a2 n2 c2, .slice a3 n3 c3, .slice a4 n4 c4, .int .i64 i1, .int .i64 i2, .int .i64 i3, .int .i64 i4, .int .i64 i5, .int .i64 i6, .int .i64 i7] 34 (0, 0))) := e0
  have E1 : Hid (W0.heap[p + 1]? = some (.cells #[.slice none 0 0, .slice none 0 0, .slice none 0 0, .slice none 0 0, .int .i64 0, .int .i64 0, .int .i64 0, .int .i64 0, .int .i64 0, .int .i64 0, .int .i64 0] 34 (0, 0))) := e1
  obtain ⟨x0, x1⟩ := blkc e0
  have y00 := x0 0
  clear x0 x1 e0 e1
  go_enter Tryz.func31, Tryz.ntmps31
  go_wp2_with fail
  rw [← hp, ← hW0]
  have hpl : p < W0.heap.size := ob_ltB E0.out
  have hpB : w.heap.size ≤ p := by omega
  have HP : Hid (p = w.heap.size) := hp
  clear hW0 hp
  refine (k1 _ hb0).mono ?_
  rintro e w1 ⟨A1, C1, rfl, own1, b1⟩
  have hlt1 := hpl
  have F1 : w1.heap[p]? = some (.cells #[.slice a1 n1 c1, .slice a2 n2 c2, .slice a3 n3 c3, .slice a4 n4 c4, .int .i64 i1, .int .i64 i2, .int .i64 i3, .int .i64 i4, .int .i64 i5, .int .i64 i6, .int .i64 i7] 34 (0, 0)) := (b1.block _ (ob_ltB E0.out)).trans E0.out
  have R1 : w1.heap[p + 1]? = some (.cells #[.slice none 0 0, .slice none 0 0, .slice none 0 0, .slice none 0 0, .int .i64 0, .int .i64 0, .int .i64 0, .int .i64 0, .int .i64 0, .int .i64 0, .int .i64 0] 34 (0, 0)) := (b1.block _ (ob_ltB E1.out)).trans E1.out
  have G1 : Hid ((w1.setCell ⟨p, 0, none⟩ (.slice A1 n1 C1)).heap[p]? = some (.cells #[.slice A1 n1 C1, .slice a2 n2 c2, .slice a3 n3 c3, .slice a4 n4 c4, .int .i64 i1, .int .i64 i2, .int .i64 i3, .int .i64 i4, .int .i64 i5, .int .i64 i6, .int .i64 i7] 34 (0, 0))) := (bput F1 _ rfl : _ = _)
  have Q1 : Hid ((w1.setCell ⟨p, 0, none⟩ (.slice A1 n1 C1)).heap[p + 1]? = some (.cells #[.slice none 0 0, .slice none 0 0, .slice none 0 0, .slice none 0 0, .int .i64 0, .int .i64 0, .int .i64 0, .int .i64 0, .int .i64 0, .int .i64 0, .int .i64 0] 34 (0, 0))) := ((Below.heap_setCell _ _ _ _ (by simp)).trans R1 : _ = _)
  have s1 := (blkc F1).1 0
  have f1 := (blkc F1).2 0
  have t1 := (blkc G1.out).1 1
  have B1 := below_putB (hb0.trans (b1.mono hb0.size)) hpB 0 (.slice A1 n1 C1)
  have own1 := own1.kept (turned_set w1 p 0 (.slice A1 n1 C1)) (.inr (own_ne own1 hlt1).symm)
  clear F1 R1
  go_wp2_with fail
  refine (k2 _ B1).mono ?_
  rintro e w2 ⟨A2, C2, rfl, own2, b2⟩
  have hlt2 := ob_ltB G1.out
  have F2 : w2.heap[p]? = some (.cells #[.slice A1 n1 C1, .slice a2 n2 c2, .slice a3 n3 c3, .slice a4 n4 c4, .int .i64 i1, .int .i64 i2, .int .i64 i3, .int .i64 i4, .int .i64 i5, .int .i64 i6, .int .i64 i7] 34 (0, 0)) := (b2.block _ (ob_ltB G1.out)).trans G1.out
  have R2 : w2.heap[p + 1]? = some (.cells #[.slice none 0 0, .slice none 0 0, .slice none 0 0, .slice none 0 0, .int .i64 0, .int .i64 0, .int .i64 0, .int .i64 0, .int .i64 0, .int .i64 0, .int .i64 0] 34 (0, 0)) := (b2.block _ (ob_ltB Q1.out)).trans Q1.out
  have G2 : Hid ((w2.setCell ⟨p, 1, none⟩ (.slice A2 n2 C2)).heap[p]? = some (.cells #[.slice A1 n1 C1, .slice A2 n2 C2, .slice a3 n3 c3, .slice a4 n4 c4, .int .i64 i1, .int .i64 i2, .int .i64 i3, .int .i64 i4, .int .i64 i5, .int .i64 i6, .int .i64 i7] 34 (0, 0))) := (bput F2 _ rfl : _ = _)
  have Q2 : Hid ((w2.setCell ⟨p, 1, none⟩ (.slice A2 n2 C2)).heap[p + 1]? = some (.cells #[.slice none 0 0, .slice none 0 0, .slice none 0 0, .slice none 0 0, .int .i64 0, .int .i64 0, .int .i64 0, .int .i64 0, .int .i64 0, .int .i64 0, .int .i64 0] 34 (0, 0))) := ((Below.heap_setCell _ _ _ _ (by simp)).trans R2 : _ = _)
  have s2 := (blkc F2).1 1
  have f2 := (blkc F2).2 1
  have t2 := (blkc G2.out).1 3
  have B2 := below_putB (B1.trans (b2.mono B1.size)) hpB 1 (.slice A2 n2 C2)
  have own1 := own_keptB own1 b2
  have own1 := own1.kept (turned_set w2 p 1 (.slice A2 n2 C2)) (.inr (own_ne own1 hlt1).symm)
  have own2 := own2.kept (turned_set w2 p 1 (.slice A2 n2 C2)) (.inr (own_ne own2 hlt2).symm)
  clear F2 R2
  go_wp2_with fail
  refine (k4 _ B2).mono ?_
  rintro e w3 ⟨A4, C4, rfl, own4, b3⟩
  have hlt3 := ob_ltB G2.out
  have F3 : w3.heap[p]? = some (.cells #[.slice A1 n1 C1, .slice A2 n2 C2, .slice a3 n3 c3, .slice a4 n4 c4, .int .i64 i1, .int .i64 i2, .int .i64 i3, .int .i64 i4, .int .i64 i5, .int .i64 i6, .int .i64 i7] 34 (0, 0)) := (b3.block _ (ob_ltB G2.out)).trans G2.out
  have R3 : w3.heap[p + 1]? = some (.cells #[.slice none 0 0, .slice none 0 0, .slice none 0 0, .slice none 0 0, .int .i64 0, .int .i64 0, .int .i64 0, .int .i64 0, .int .i64 0, .int .i64 0, .int .i64 0] 34 (0, 0)) := (b3.block _ (ob_ltB Q2.out)).trans Q2.out
  have G3 : Hid ((w3.setCell ⟨p, 3, none⟩ (.slice A4 n4 C4)).heap[p]? = some (.cells #[.slice A1 n1 C1, .slice A2 n2 C2, .slice a3 n3 c3, .slice A4 n4 C4, .int .i64 i1, .int .i64 i2, .int .i64 i3, .int .i64 i4, .int .i64 i5, .int .i64 i6, .int .i64 i7] 34 (0, 0))) := (bput F3 _ rfl : _ = _)
  have Q3 : Hid ((w3.setCell ⟨p, 3, none⟩ (.slice A4 n4 C4)).heap[p + 1]? = some (.cells #[.slice none 0 0, .slice none 0 0, .slice none 0 0, .slice none 0 0, .int .i64 0, .int .i64 0, .int .i64 0, .int .i64 0, .int .i64 0, .int .i64 0, .int .i64 0] 34 (0, 0))) := ((Below.heap_setCell _ _ _ _ (by simp)).trans R3 : _ = _)
  have s3 := (blkc F3).1 3
  have f3 := (blkc F3).2 3
  have t3 := (blkc G3.out).1 2
  have B3 := below_putB (B2.trans (b3.mono B2.size)) hpB 3 (.slice A4 n4 C4)
  have own1 := own_keptB own1 b3
  have own2 := own_keptB own2 b3
  have own1 := own1.kept (turned_set w3 p 3 (.slice A4 n4 C4)) (.inr (own_ne own1 hlt1).symm)
  have own2 := own2.kept (turned_set w3 p 3 (.slice A4 n4 C4)) (.inr (own_ne own2 hlt2).symm)
  have own4 := own4.kept (turned_set w3 p 3 (.slice A4 n4 C4)) (.inr (own_ne own4 hlt3).symm)
  clear F3 R3
  go_wp2_with fail
  refine (k3 _ B3).mono ?_
  rintro e w4 ⟨A3, C3, rfl, own3, b4⟩
  have hlt4 := ob_ltB G3.out
  have F4 : w4.heap[p]? = some (.cells #[.slice A1 n1 C1, .slice A2 n2 C2, .slice a3 n3 c3, .slice A4 n4 C4, .int .i64 i1, .int .i64 i2, .int .i64 i3, .int .i64 i4, .int .i64 i5, .int .i64 i6, .int .i64 i7] 34 (0, 0)) := (b4.block _ (ob_ltB G3.out)).trans G3.out
  have R4 : w4.heap[p + 1]? = some (.cells #[.slice none 0 0, .slice none 0 0, .slice none 0 0, .slice none 0 0, .int .i64 0, .int .i64 0, .int .i64 0, .int .i64 0, .int .i64 0, .int .i64 0, .int .i64 0] 34 (0, 0)) := (b4.block _ (ob_ltB Q3.out)).trans Q3.out
  have G4 : Hid ((w4.setCell ⟨p, 2, none⟩ (.slice A3 n3 C3)).heap[p]? = some (.cells #[.slice A1 n1 C1, .slice A2 n2 C2, .slice A3 n3 C3, .slice A4 n4 C4, .int .i64 i1, .int .i64 i2, .int .i64 i3, .int .i64 i4, .int .i64 i5, .int .i64 i6, .int .i64 i7] 34 (0, 0))) := (bput F4 _ rfl : _ = _)
  have Q4 : Hid ((w4.setCell ⟨p, 2, none⟩ (.slice A3 n3 C3)).heap[p + 1]? = some (.cells #[.slice none 0 0, .slice none 0 0, .slice none 0 0, .slice none 0 0, .int .i64 0, .int .i64 0, .int .i64 0, .int .i64 0, .int .i64 0, .int .i64 0, .int .i64 0] 34 (0, 0))) := ((Below.heap_setCell _ _ _ _ (by simp)).trans R4 : _ = _)
  have s4 := (blkc F4).1 2
  have f4 := (blkc F4).2 2
  have t4 := (blkc G4.out).1 2
  have B4 := below_putB (B3.trans (b4.mono B3.size)) hpB 2 (.slice A3 n3 C3)
  have own1 := own_keptB own1 b4
  have own2 := own_keptB own2 b4
  have own4 := own_keptB own4 b4
  have own1 := own1.kept (turned_set w4 p 2 (.slice A3 n3 C3)) (.inr (own_ne own1 hlt1).symm)
  have own2 := own2.kept (turned_set w4 p 2 (.slice A3 n3 C3)) (.inr (own_ne own2 hlt2).symm)
  have own4 := own4.kept (turned_set w4 p 2 (.slice A3 n3 C3)) (.inr (own_ne own4 hlt3).symm)
  have own3 := own3.kept (turned_set w4 p 2 (.slice A3 n3 C3)) (.inr (own_ne own3 hlt4).symm)
  clear F4 R4
  go_wp2
  obtain ⟨V, hV⟩ : ∃ V, V = w4.setCell ⟨p, 2, none⟩ (.slice A3 n3 C3) := ⟨_, rfl⟩
  rw [← hV] at own1 own2 own3 own4 B4 G4 Q4 ⊢
  have hRO : ROwn w.heap.size V A1 n1 C1 A2 n2 C2 A3 n3 C3 A4 n4 C4 ⟨s, ms, ts, ks, i1, i2, i3, i4, i5, i6, i7⟩ := ⟨lowns_base own1 (by omega), lowns_base own2 (by omega), lowns_base own3 (by omega), lowns_base own4 (by omega)⟩
  clear own1 own2 own3 own4 B1 B2 B3 b1 b2 b3 b4 s1 s2 s3 s4 f1 f2 f3 f4 t1 t2 t3 t4 G1 G2 G3 Q1 Q2 Q3 k1 k2 k3 k4 hlt1 hlt2 hlt3 hlt4 hV E0 E1 y00 hb0 hpl
  go_loopw [24] (fun iv wr => ∃ k : Nat, k ≤ n3 ∧ iv = .int .i64 k ∧ ROwn w.heap.size wr A1 n1 C1 A2 n2 C2 A3 n3 C3 A4 n4 C4 ⟨s, ms, ts, ks, i1, i2, i3, i4, i5, i6, i7⟩ ∧ Hid (wr.heap[p]? = some (.cells #[.slice A1 n1 C1, .slice A2 n2 C2, .slice A3 n3 C3, .slice A4 n4 C4, .int .i64 i1, .int .i64 i2, .int .i64 i3, .int .i64 i4, .int .i64 i5, .int .i64 i6, .int .i64 i7] 34 (0, 0))) ∧ Hid (wr.heap[p + 1]? = some (.cells #[.slice none 0 0, .slice none 0 0, .slice none 0 0, .slice none 0 0, .int .i64 0, .int .i64 0, .int .i64 0, .int .i64 0, .int .i64 0, .int .i64 0, .int .i64 0] 34 (0, 0))) ∧ Below w.heap.size w wr) (fun iv _ => n3 - (intOf iv).toNat)
  case atStart => exact ⟨0, by omega, rfl, hRO, G4, Q4, B4⟩
  case round =>
    obtain ⟨k, hk, rfl, hro, HG, HQ, hbel⟩ := hrel
    clear hRO G4 Q4 B4
    by_cases hlt : k < n3
    · obtain ⟨g, rfl⟩ := town_g hro.o3 (by omega)
      have hk' : k < ts.length := by rw [HL.out]; exact hlt
      obtain ⟨x1, x2, x3, x4, x5, hx, u0, u1, u2, u3, u4⟩ := town5 hk'
      have hmem : ts.getD k Lv.zero ∈ ts := by simp [hk']
      rw [hx.out] at hmem
      obtain ⟨hx4, hx5⟩ := HT.out _ hmem
      dsimp only at hx4 hx5
      obtain ⟨g0, fr0⟩ := own_cells hro.o3 u0
      obtain ⟨g1, fr1⟩ := own_cells hro.o3 u1
      obtain ⟨g2, fr2⟩ := own_cells hro.o3 u2
      obtain ⟨g3, fr3⟩ := own_cells hro.o3 u3
      obtain ⟨g4, fr4⟩ := own_cells hro.o3 u4
      have hot := fun W => rowntab_any x1 x2 x3 x4 x5 (by omega) (by omega) W
      have hgp : ¬ (p = g) := fun e => obr_apart HG.out hro.o3 (by decide) (by rw [e]; rfl)
      have hpg : ¬ (g = p) := fun e => hgp e.symm
      have hgq : ¬ (g = wr.heap.size) := by have := (own_lt hro.o3).1; omega
      have hpq : ¬ (p = wr.heap.size) := by have := ob_ltB HG.out; omega
      have i0 : (0 : Int) ≤ (k : Int) := by omega
      have j5 : (k : Int) < (n3 : Int) := by omega
      obtain ⟨U, hU⟩ : ∃ U, U = wr.alloc (.cells #[.int .i64 x1, .int .i64 x2, .int .i64 x3, .string x4, .string x5] 50) := ⟨_, rfl⟩
      have hbU : Below wr.heap.size wr U := by rw [hU]; exact below_alloc _ _
      have hq : U.heap[wr.heap.size]? = some (.cells #[.int .i64 x1, .int .i64 x2, .int .i64 x3, .string x4, .string x5] 50 (0, 0)) := by rw [hU]; exact heap_alloc_new _ _
      have HV : Hid (∀ W, Below U.heap.size U W → (W.cell? ⟨p, 2, none⟩ = some (.slice (some ⟨g, 0, none⟩) n3 C3) ∧ W.cell? ⟨wr.heap.size, 0, none⟩ = some (.int .i64 x1) ∧ W.cell? ⟨wr.heap.size, 1, none⟩ = some (.int .i64 x2) ∧ W.cell? ⟨wr.heap.size, 2, none⟩ = some (.int .i64 x3) ∧ W.cell? ⟨wr.heap.size, 3, none⟩ = some (.string x4) ∧ W.cell? ⟨wr.heap.size, 4, none⟩ = some (.string x5))) := (fun W h => by
        have a := (blkc ((h.block _ (ob_ltB hq)).trans hq)).1
        have hb := hbU.trans (h.mono hbU.size)
        have b := (blkc ((hb.block _ (ob_ltB HG.out)).trans HG.out)).1
        exact ⟨b 2, a 0, a 1, a 2, a 3, a 4⟩ : ∀ W, Below U.heap.size U W → _)
      obtain ⟨v2, l0, l1, l2, l3, l4⟩ := HV.out U (Below.refl _ _)
      have HU : Hid (Below wr.heap.size wr U) := hbU
      have hUe : wr.alloc (.cells #[.int .i64 x1, .int .i64 x2, .int .i64 x3, .string x4, .string x5] 50) = U := hU.symm
      clear hx hmem hx4 hx5 hq hU
      go_wp2_with fail
      clear hUe
      go_region_held3 (fun W => W.cell? ⟨p, 2, none⟩ = some (.slice (some ⟨g, 0, none⟩) n3 C3) ∧ W.cell? ⟨wr.heap.size, 0, none⟩ = some (.int .i64 x1) ∧ W.cell? ⟨wr.heap.size, 1, none⟩ = some (.int .i64 x2) ∧ W.cell? ⟨wr.heap.size, 2, none⟩ = some (.int .i64 x3) ∧ W.cell? ⟨wr.heap.size, 3, none⟩ = some (.string x4) ∧ W.cell? ⟨wr.heap.size, 4, none⟩ = some (.string x5)) (first | go_keep | (refine ⟨?_, ?_, ?_, ?_, ?_, ?_⟩ <;> assumption) | (exact off5 _ hgp hgq ⟨v2', l0', l1', l2', l3', l4'⟩ rfl))
        ((go_at_call 69; go_must (refine (hot _).mono ?_; rintro e w5 ⟨rfl, b5⟩; have hb5 := below_of_drew b5; obtain ⟨v2', l0', l1', l2', l3', l4'⟩ := HV.out w5 hb5; have hb6 := HU.out.trans (hb5.mono HU.out.size); have hro5 := hro.kept hb6; obtain ⟨g0', fr0'⟩ := own_cells hro5.o3 u0; obtain ⟨g1', fr1'⟩ := own_cells hro5.o3 u1; obtain ⟨g2', fr2'⟩ := own_cells hro5.o3 u2; obtain ⟨g3', fr3'⟩ := own_cells hro5.o3 u3; obtain ⟨g4', fr4'⟩ := own_cells hro5.o3 u4)))
      have hgr : w5.grownBy _ (some g) := turned_setL g [.int .i64 x1, .int .i64 x2, .int .i64 x3, .string x4, .string x5] (k * 5) w5
      have hs3 := own_set5 hro5.o3 u0 u1 u2 u3 u4
      obtain ⟨W6, hW6⟩ : ∃ W6, W6 = ((((w5.setCell ⟨g, k * 5, none⟩ (.int .i64 x1)).setCell ⟨g, k * 5 + 1, none⟩ (.int .i64 x2)).setCell ⟨g, k * 5 + 2, none⟩ (.int .i64 x3)).setCell ⟨g, k * 5 + 3, none⟩ (.string x4)).setCell ⟨g, k * 5 + 4, none⟩ (.string x5) := ⟨_, rfl⟩
      have hgr6 : w5.grownBy W6 (some g) := by rw [hW6]; exact hgr
      rw [← hW6] at hs3 ⊢
      have hro6 : ROwn w.heap.size W6 A1 n1 C1 A2 n2 C2 (some ⟨g, 0, none⟩) n3 C3 A4 n4 C4 ⟨s, ms, ts, ks, i1, i2, i3, i4, i5, i6, i7⟩ :=
        ⟨hro5.o1.kept hgr6 (own_apart hro5.o1 hro5.o3 (by decide)), hro5.o2.kept hgr6 (own_apart hro5.o2 hro5.o3 (by decide)), hs3, hro5.o4.kept hgr6 (own_apart hro5.o4 hro5.o3 (by decide))⟩
      have hG5 := (hb6.block _ (ob_ltB HG.out)).trans HG.out
      have hQ5 := (hb6.block _ (ob_ltB HQ.out)).trans HQ.out
      have hgq2 : ¬ (p + 1 = g) := fun e => obr_apart HQ.out hro.o3 (by decide) (by rw [e]; rfl)
      have hG6 : Hid (W6.heap[p]? = some (.cells #[.slice A1 n1 C1, .slice A2 n2 C2, .slice (some ⟨g, 0, none⟩) n3 C3, .slice A4 n4 C4, .int .i64 i1, .int .i64 i2, .int .i64 i3, .int .i64 i4, .int .i64 i5, .int .i64 i6, .int .i64 i7] 34 (0, 0))) := ((hgr6.block _ (ob_ltB hG5) (fun e => hgp (Option.some.inj e))).trans hG5 : _ = _)
      have hQ6 : Hid (W6.heap[p + 1]? = some (.cells #[.slice none 0 0, .slice none 0 0, .slice none 0 0, .slice none 0 0, .int .i64 0, .int .i64 0, .int .i64 0, .int .i64 0, .int .i64 0, .int .i64 0, .int .i64 0] 34 (0, 0))) := ((hgr6.block _ (ob_ltB hQ5) (fun e => hgq2 (Option.some.inj e))).trans hQ5 : _ = _)
      have hb7 : Below w.heap.size w W6 := below_grownB (hbel.trans (hb6.mono hbel.size)) hgr6 (hbel.trans (hb6.mono hbel.size)).size (fun q hq => by cases hq; exact (own_lt hro.o3).2)
      clear hW6 hgr hs3 hro5 hG5 hQ5 hb6 hb5 b5
      go_wp2
      go_roundw
      case rel => exact ⟨k + 1, by omega, by go_num, hro6, hG6, hQ6, hb7⟩
      case measure => simp [intOf]; omega
    · obtain rfl : k = n3 := by omega
      obtain ⟨x0, _⟩ := blkc HG.out
      obtain ⟨y0, z0⟩ := blkc HQ.out
      have x00 := x0 0
      have y00 := y0 0
      have x01 := x0 1
      have y01 := y0 1
      have x02 := x0 2
      have y02 := y0 2
      have x03 := x0 3
      have y03 := y0 3
      have x04 := x0 4
      have y04 := y0 4
      have x05 := x0 5
      have y05 := y0 5
      have x06 := x0 6
      have y06 := y0 6
      have x07 := x0 7
      have y07 := y0 7
      have x08 := x0 8
      have y08 := y0 8
      have x09 := x0 9
      have y09 := y0 9
      have x010 := x0 10
      have y010 := y0 10
      clear x0 y0
      go_wp2
      have B0 : (wr.setCell ⟨p + 1, 0, none⟩ (.slice A1 n1 C1)).heap[p + 1]? = some (.cells #[.slice A1 n1 C1, .slice none 0 0, .slice none 0 0, .slice none 0 0, .int .i64 0, .int .i64 0, .int .i64 0, .int .i64 0, .int .i64 0, .int .i64 0, .int .i64 0] 34 (0, 0)) := bput HQ.out _ rfl
      have B1 : ((wr.setCell ⟨p + 1, 0, none⟩ (.slice A1 n1 C1)).setCell ⟨p + 1, 1, none⟩ (.slice A2 n2 C2)).heap[p + 1]? = some (.cells #[.slice A1 n1 C1, .slice A2 n2 C2, .slice none 0 0, .slice none 0 0, .int .i64 0, .int .i64 0, .int .i64 0, .int .i64 0, .int .i64 0, .int .i64 0, .int .i64 0] 34 (0, 0)) := bput B0 _ rfl
      have B2 : (((wr.setCell ⟨p + 1, 0, none⟩ (.slice A1 n1 C1)).setCell ⟨p + 1, 1, none⟩ (.slice A2 n2 C2)).setCell ⟨p + 1, 2, none⟩ (.slice A3 k C3)).heap[p + 1]? = some (.cells #[.slice A1 n1 C1, .slice A2 n2 C2, .slice A3 k C3, .slice none 0 0, .int .i64 0, .int .i64 0, .int .i64 0, .int .i64 0, .int .i64 0, .int .i64 0, .int .i64 0] 34 (0, 0)) := bput B1 _ rfl
      have B3 : ((((wr.setCell ⟨p + 1, 0, none⟩ (.slice A1 n1 C1)).setCell ⟨p + 1, 1, none⟩ (.slice A2 n2 C2)).setCell ⟨p + 1, 2, none⟩ (.slice A3 k C3)).setCell ⟨p + 1, 3, none⟩ (.slice A4 n4 C4)).heap[p + 1]? = some (.cells #[.slice A1 n1 C1, .slice A2 n2 C2, .slice A3 k C3, .slice A4 n4 C4, .int .i64 0, .int .i64 0, .int .i64 0, .int .i64 0, .int .i64 0, .int .i64 0, .int .i64 0] 34 (0, 0)) := bput B2 _ rfl
      have B4 : (((((wr.setCell ⟨p + 1, 0, none⟩ (.slice A1 n1 C1)).setCell ⟨p + 1, 1, none⟩ (.slice A2 n2 C2)).setCell ⟨p + 1, 2, none⟩ (.slice A3 k C3)).setCell ⟨p + 1, 3, none⟩ (.slice A4 n4 C4)).setCell ⟨p + 1, 4, none⟩ (.int .i64 i1)).heap[p + 1]? = some (.cells #[.slice A1 n1 C1, .slice A2 n2 C2, .slice A3 k C3, .slice A4 n4 C4, .int .i64 i1, .int .i64 0, .int .i64 0, .int .i64 0, .int .i64 0, .int .i64 0, .int .i64 0] 34 (0, 0)) := bput B3 _ rfl
      have B5 : ((((((wr.setCell ⟨p + 1, 0, none⟩ (.slice A1 n1 C1)).setCell ⟨p + 1, 1, none⟩ (.slice A2 n2 C2)).setCell ⟨p + 1, 2, none⟩ (.slice A3 k C3)).setCell ⟨p + 1, 3, none⟩ (.slice A4 n4 C4)).setCell ⟨p + 1, 4, none⟩ (.int .i64 i1)).setCell ⟨p + 1, 5, none⟩ (.int .i64 i2)).heap[p + 1]? = some (.cells #[.slice A1 n1 C1, .slice A2 n2 C2, .slice A3 k C3, .slice A4 n4 C4, .int .i64 i1, .int .i64 i2, .int .i64 0, .int .i64 0, .int .i64 0, .int .i64 0, .int .i64 0] 34 (0, 0)) := bput B4 _ rfl
      have B6 : (((((((wr.setCell ⟨p + 1, 0, none⟩ (.slice A1 n1 C1)).setCell ⟨p + 1, 1, none⟩ (.slice A2 n2 C2)).setCell ⟨p + 1, 2, none⟩ (.slice A3 k C3)).setCell ⟨p + 1, 3, none⟩ (.slice A4 n4 C4)).setCell ⟨p + 1, 4, none⟩ (.int .i64 i1)).setCell ⟨p + 1, 5, none⟩ (.int .i64 i2)).setCell ⟨p + 1, 6, none⟩ (.int .i64 i3)).heap[p + 1]? = some (.cells #[.slice A1 n1 C1, .slice A2 n2 C2, .slice A3 k C3, .slice A4 n4 C4, .int .i64 i1, .int .i64 i2, .int .i64 i3, .int .i64 0, .int .i64 0, .int .i64 0, .int .i64 0] 34 (0, 0)) := bput B5 _ rfl
      have B7 : ((((((((wr.setCell ⟨p + 1, 0, none⟩ (.slice A1 n1 C1)).setCell ⟨p + 1, 1, none⟩ (.slice A2 n2 C2)).setCell ⟨p + 1, 2, none⟩ (.slice A3 k C3)).setCell ⟨p + 1, 3, none⟩ (.slice A4 n4 C4)).setCell ⟨p + 1, 4, none⟩ (.int .i64 i1)).setCell ⟨p + 1, 5, none⟩ (.int .i64 i2)).setCell ⟨p + 1, 6, none⟩ (.int .i64 i3)).setCell ⟨p + 1, 7, none⟩ (.int .i64 i4)).heap[p + 1]? = some (.cells #[.slice A1 n1 C1, .slice A2 n2 C2, .slice A3 k C3, .slice A4 n4 C4, .int .i64 i1, .int .i64 i2, .int .i64 i3, .int .i64 i4, .int .i64 0, .int .i64 0, .int .i64 0] 34 (0, 0)) := bput B6 _ rfl
      have B8 : (((((((((wr.setCell ⟨p + 1, 0, none⟩ (.slice A1 n1 C1)).setCell ⟨p + 1, 1, none⟩ (.slice A2 n2 C2)).setCell ⟨p + 1, 2, none⟩ (.slice A3 k C3)).setCell ⟨p + 1, 3, none⟩ (.slice A4 n4 C4)).setCell ⟨p + 1, 4, none⟩ (.int .i64 i1)).setCell ⟨p + 1, 5, none⟩ (.int .i64 i2)).setCell ⟨p + 1, 6, none⟩ (.int .i64 i3)).setCell ⟨p + 1, 7, none⟩ (.int .i64 i4)).setCell ⟨p + 1, 8, none⟩ (.int .i64 i5)).heap[p + 1]? = some (.cells #[.slice A1 n1 C1, .slice A2 n2 C2, .slice A3 k C3, .slice A4 n4 C4, .int .i64 i1, .int .i64 i2, .int .i64 i3, .int .i64 i4, .int .i64 i5, .int .i64 0, .int .i64 0] 34 (0, 0)) := bput B7 _ rfl
      have B9 : ((((((((((wr.setCell ⟨p + 1, 0, none⟩ (.slice A1 n1 C1)).setCell ⟨p + 1, 1, none⟩ (.slice A2 n2 C2)).setCell ⟨p + 1, 2, none⟩ (.slice A3 k C3)).setCell ⟨p + 1, 3, none⟩ (.slice A4 n4 C4)).setCell ⟨p + 1, 4, none⟩ (.int .i64 i1)).setCell ⟨p + 1, 5, none⟩ (.int .i64 i2)).setCell ⟨p + 1, 6, none⟩ (.int .i64 i3)).setCell ⟨p + 1, 7, none⟩ (.int .i64 i4)).setCell ⟨p + 1, 8, none⟩ (.int .i64 i5)).setCell ⟨p + 1, 9, none⟩ (.int .i64 i6)).heap[p + 1]? = some (.cells #[.slice A1 n1 C1, .slice A2 n2 C2, .slice A3 k C3, .slice A4 n4 C4, .int .i64 i1, .int .i64 i2, .int .i64 i3, .int .i64 i4, .int .i64 i5, .int .i64 i6, .int .i64 0] 34 (0, 0)) := bput B8 _ rfl
      have B10 : (((((((((((wr.setCell ⟨p + 1, 0, none⟩ (.slice A1 n1 C1)).setCell ⟨p + 1, 1, none⟩ (.slice A2 n2 C2)).setCell ⟨p + 1, 2, none⟩ (.slice A3 k C3)).setCell ⟨p + 1, 3, none⟩ (.slice A4 n4 C4)).setCell ⟨p + 1, 4, none⟩ (.int .i64 i1)).setCell ⟨p + 1, 5, none⟩ (.int .i64 i2)).setCell ⟨p + 1, 6, none⟩ (.int .i64 i3)).setCell ⟨p + 1, 7, none⟩ (.int .i64 i4)).setCell ⟨p + 1, 8, none⟩ (.int .i64 i5)).setCell ⟨p + 1, 9, none⟩ (.int .i64 i6)).setCell ⟨p + 1, 10, none⟩ (.int .i64 i7)).heap[p + 1]? = some (.cells #[.slice A1 n1 C1, .slice A2 n2 C2, .slice A3 k C3, .slice A4 n4 C4, .int .i64 i1, .int .i64 i2, .int .i64 i3, .int .i64 i4, .int .i64 i5, .int .i64 i6, .int .i64 i7] 34 (0, 0)) := bput B9 _ rfl
      have hgr : wr.grownBy _ (some (p + 1)) := turned_setL (p + 1) [.slice A1 n1 C1, .slice A2 n2 C2, .slice A3 k C3, .slice A4 n4 C4, .int .i64 i1, .int .i64 i2, .int .i64 i3, .int .i64 i4, .int .i64 i5, .int .i64 i6, .int .i64 i7] 0 wr
      have hroF := hro.other HQ.out hgr
      have hbF := below_grownB hbel hgr hbel.size (fun q hq => by cases hq; have := HP.out; omega)
      have cF := (blkc B10).1
      have d0 := cF 0
      have d1 := cF 1
      have d2 := cF 2
      have d3 := cF 3
      have d4 := cF 4
      have d5 := cF 5
      have d6 := cF 6
      have d7 := cF 7
      have d8 := cF 8
      have d9 := cF 9
      have d10 := cF 10
      refine bodyPost_ret (v := .agg #[.slice A1 n1 C1, .slice A2 n2 C2, .slice A3 k C3, .slice A4 n4 C4, .int .i64 i1, .int .i64 i2, .int .i64 i3, .int .i64 i4, .int .i64 i5, .int .i64 i6, .int .i64 i7]) (by simp [results, Tryz.results31, go_sem, d0, d1, d2, d3, d4, d5, d6, d7, d8, d9, d10]) rfl ⟨A1, C1, A2, C2, A3, C3, A4, C4, rfl, hroF, hbF⟩
end Go.Proofs.YtfogodbbgbnhkaaGreatDoor
