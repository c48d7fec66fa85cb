/- Rows that share no memory with others: slices.Clone; ownTab of the program. -/
import Derived.Test.YtmodogmjfbcddaaGreatRE
import Derived.Test.YtmodogmjfbcddaaGreatSG
import Derived.Deep.RegionHeld3
namespace Go.Proofs.YtmodogmjfbcddaaGreat
open Go.RowKit

/-- a new row of whatever there is -/
def CRes {α : Type} (E : TypeId) (s : Nat) (enc : α → List Value) (w : World) (l : List α) (e : Ending) (w' : World) : Prop := ∃ g c, e = .returned (.slice g l.length c) ∧ w'.ownsRow w.heap.size E s (.slice g l.length c) l.length (tcells enc l) ∧ Below w.heap.size w w'

set_option maxRecDepth 100000 in
set_option maxHeartbeats 400000 in
theorem rclone_z (a : Option Addr) (n c : Nat) (l : List (Int)) (w : World) (hn : n ≤ 1000000) (hr : ZRow w a n l) (hnil : a = none → n = 0 ∧ c = 0) :
    Calls Tryz.prog 53 #[.slice a n c] w (CRes 3 1 ze w l) := by
  obtain rfl := hr.1
  cases a with
  | none =>
    obtain ⟨h0, rfl⟩ := hnil rfl
    obtain rfl : l = [] := List.length_eq_zero_iff.mp h0
    go_enter Tryz.func53, Tryz.ntmps53
    go_wp2_with fail
    rw [Lib.run_eql_slice_nil _ 22 3 none _ 0 0 0 Tryz.underlying22]
    go_wp2
    go_ret
    exact ⟨none, 0, rfl, ⟨rfl, .inl ⟨rfl, rfl⟩⟩, Below.refl _ _⟩
  | some p =>
    have hr2 := hr.below (below_alloc w (.cells #[] 3)) (Nat.le_refl _)
    have hm0 := made_t (s := 1) (enc := ze) w (B := w.heap.size) (E := 3) (Nat.le_refl _) rfl
    obtain ⟨n, hn'⟩ : ∃ n, n = l.length := ⟨_, rfl⟩
    unfold CRes
    rw [← hn'] at hr hr2 hn ⊢
    clear hn' hnil
    go_enter Tryz.func53, Tryz.ntmps53
    go_wp2_with fail
    rw [Lib.run_eql_slice_nil _ 22 3 (some p) n c 0 0 Tryz.underlying22]
    go_wp2_with (at_builtin; go_must (refine append_t intZ zeE (w0 := w) (B := w.heap.size) rfl (.tmp 5) (.tmp 6) rfl _ 0 [] rfl hm0 (some p) n c l rfl hr2 (fun h => by cases h) (by omega) (below_alloc _ _) (by simp) ?_; intro A C w2 _ _ _ hown2 hbel2 _))
    rw [Nat.zero_add, List.nil_append] at hown2
    go_ret
    exact ⟨A, C, rfl, hown2, hbel2⟩

set_option maxRecDepth 100000 in
set_option maxHeartbeats 400000 in
theorem rclone_m (a : Option Addr) (n c : Nat) (l : List (Int × Int)) (w : World) (hn : n ≤ 1000000) (hr : MRow w a n l) (hnil : a = none → n = 0 ∧ c = 0) :
    Calls Tryz.prog 54 #[.slice a n c] w (CRes 53 2 me w l) := by
  obtain rfl := hr.1
  cases a with
  | none =>
    obtain ⟨h0, rfl⟩ := hnil rfl
    obtain rfl : l = [] := List.length_eq_zero_iff.mp h0
    go_enter Tryz.func54, Tryz.ntmps54
    go_wp2_with fail
    rw [Lib.run_eql_slice_nil _ 23 53 none _ 0 0 0 Tryz.underlying23]
    go_wp2
    go_ret
    exact ⟨none, 0, rfl, ⟨rfl, .inl ⟨rfl, rfl⟩⟩, Below.refl _ _⟩
  | some p =>
    have hr2 := hr.below (below_alloc w (.cells #[] 53)) (Nat.le_refl _)
    have hm0 := made_t (s := 2) (enc := me) w (B := w.heap.size) (E := 53) (Nat.le_refl _) rfl
    obtain ⟨n, hn'⟩ : ∃ n, n = l.length := ⟨_, rfl⟩
    unfold CRes
    rw [← hn'] at hr hr2 hn ⊢
    clear hn' hnil
    go_enter Tryz.func54, Tryz.ntmps54
    go_wp2_with fail
    rw [Lib.run_eql_slice_nil _ 23 53 (some p) n c 0 0 Tryz.underlying23]
    go_wp2_with (at_builtin; go_must (refine append_t moveE meE (w0 := w) (B := w.heap.size) rfl (.tmp 5) (.tmp 6) rfl _ 0 [] rfl hm0 (some p) n c l rfl hr2 (fun h => by cases h) (by omega) (below_alloc _ _) (by simp) ?_; intro A C w2 _ _ _ hown2 hbel2 _))
    rw [Nat.zero_add, List.nil_append] at hown2
    go_ret
    exact ⟨A, C, rfl, hown2, hbel2⟩

set_option maxRecDepth 100000 in
set_option maxHeartbeats 400000 in
theorem rclone_t (a : Option Addr) (n c : Nat) (l : List (Lv.T)) (w : World) (hn : n ≤ 1000000) (hr : LRow w a n l) (hnil : a = none → n = 0 ∧ c = 0) :
    Calls Tryz.prog 56 #[.slice a n c] w (CRes 44 5 le w l) := by
  obtain rfl := hr.1
  cases a with
  | none =>
    obtain ⟨h0, rfl⟩ := hnil rfl
    obtain rfl : l = [] := List.length_eq_zero_iff.mp h0
    go_enter Tryz.func56, Tryz.ntmps56
    go_wp2_with fail
    rw [Lib.run_eql_slice_nil _ 24 44 none _ 0 0 0 Tryz.underlying24]
    go_wp2
    go_ret
    exact ⟨none, 0, rfl, ⟨rfl, .inl ⟨rfl, rfl⟩⟩, Below.refl _ _⟩
  | some p =>
    have hr2 := hr.below (below_alloc w (.cells #[] 44)) (Nat.le_refl _)
    have hm0 := made_t (s := 5) (enc := le) w (B := w.heap.size) (E := 44) (Nat.le_refl _) rfl
    obtain ⟨n, hn'⟩ : ∃ n, n = l.length := ⟨_, rfl⟩
    unfold CRes
    rw [← hn'] at hr hr2 hn ⊢
    clear hn' hnil
    go_enter Tryz.func56, Tryz.ntmps56
    go_wp2_with fail
    rw [Lib.run_eql_slice_nil _ 24 44 (some p) n c 0 0 Tryz.underlying24]
    go_wp2_with (at_builtin; go_must (refine append_t tabE leE (w0 := w) (B := w.heap.size) rfl (.tmp 5) (.tmp 6) rfl _ 0 [] rfl hm0 (some p) n c l rfl hr2 (fun h => by cases h) (by omega) (below_alloc _ _) (by simp) ?_; intro A C w2 _ _ _ hown2 hbel2 _))
    rw [Nat.zero_add, List.nil_append] at hown2
    go_ret
    exact ⟨A, C, rfl, hown2, hbel2⟩

set_option maxRecDepth 100000 in
set_option maxHeartbeats 400000 in
theorem rclone_k (a : Option Addr) (n c : Nat) (l : List (Int × Int × Int)) (w : World) (hn : n ≤ 1000000) (hr : KRow w a n l) (hnil : a = none → n = 0 ∧ c = 0) :
    Calls Tryz.prog 55 #[.slice a n c] w (CRes 67 3 ke w l) := by
  obtain rfl := hr.1
  cases a with
  | none =>
    obtain ⟨h0, rfl⟩ := hnil rfl
    obtain rfl : l = [] := List.length_eq_zero_iff.mp h0
    go_enter Tryz.func55, Tryz.ntmps55
    go_wp2_with fail
    rw [Lib.run_eql_slice_nil _ 25 67 none _ 0 0 0 Tryz.underlying25]
    go_wp2
    go_ret
    exact ⟨none, 0, rfl, ⟨rfl, .inl ⟨rfl, rfl⟩⟩, Below.refl _ _⟩
  | some p =>
    have hr2 := hr.below (below_alloc w (.cells #[] 67)) (Nat.le_refl _)
    have hm0 := made_t (s := 3) (enc := ke) w (B := w.heap.size) (E := 67) (Nat.le_refl _) rfl
    obtain ⟨n, hn'⟩ : ∃ n, n = l.length := ⟨_, rfl⟩
    unfold CRes
    rw [← hn'] at hr hr2 hn ⊢
    clear hn' hnil
    go_enter Tryz.func55, Tryz.ntmps55
    go_wp2_with fail
    rw [Lib.run_eql_slice_nil _ 25 67 (some p) n c 0 0 Tryz.underlying25]
    go_wp2_with (at_builtin; go_must (refine append_t stillE keE (w0 := w) (B := w.heap.size) rfl (.tmp 5) (.tmp 6) rfl _ 0 [] rfl hm0 (some p) n c l rfl hr2 (fun h => by cases h) (by omega) (below_alloc _ _) (by simp) ?_; intro A C w2 _ _ _ hown2 hbel2 _))
    rw [Nat.zero_add, List.nil_append] at hown2
    go_ret
    exact ⟨A, C, rfl, hown2, hbel2⟩

theorem set34 {W : World} {p : Nat} {u v : Value} (l3 : W.cell? ⟨p, 3, none⟩ = some u) (l4 : W.cell? ⟨p, 4, none⟩ = some v) :
    (W.setCell ⟨p, 3, none⟩ u).cell? ⟨p, 3, none⟩ = some u ∧ (W.setCell ⟨p, 3, none⟩ u).cell? ⟨p, 4, none⟩ = some v ∧ ((W.setCell ⟨p, 3, none⟩ u).setCell ⟨p, 4, none⟩ v).cell? ⟨p, 3, none⟩ = some u ∧ ((W.setCell ⟨p, 3, none⟩ u).setCell ⟨p, 4, none⟩ v).cell? ⟨p, 4, none⟩ = some v := by
  have s3 : (W.setCell ⟨p, 3, none⟩ u).cell? ⟨p, 3, none⟩ = some u := World.cell?_setCell_same' _ _ _ (by rw [l3]; rfl)
  have s4 : (W.setCell ⟨p, 3, none⟩ u).cell? ⟨p, 4, none⟩ = some v := (World.cell?_setCell_other _ _ _ _ (by simp)).trans l4
  exact ⟨s3, s4, (World.cell?_setCell_other _ _ _ _ (by simp)).trans s3, World.cell?_setCell_same' _ _ _ (by rw [s4]; rfl)⟩

theorem put5 {w W : World} {g : Nat} {u0 u1 u2 u3 u4 v0 v1 v2 v3 v4 : Value} {B : Nat} (h0 : W.cell? ⟨g, 0, none⟩ = some u0) (h1 : W.cell? ⟨g, 1, none⟩ = some u1) (h2 : W.cell? ⟨g, 2, none⟩ = some u2) (h3 : W.cell? ⟨g, 3, none⟩ = some u3) (h4 : W.cell? ⟨g, 4, none⟩ = some u4) (hg : B ≤ g) (hb : Below B w W) :
    let W4 := ((((W.setCell ⟨g, 0, none⟩ v0).setCell ⟨g, 1, none⟩ v1).setCell ⟨g, 2, none⟩ v2).setCell ⟨g, 3, none⟩ v3).setCell ⟨g, 4, none⟩ v4
    W4.cell? ⟨g, 0, none⟩ = some v0 ∧ W4.cell? ⟨g, 1, none⟩ = some v1 ∧ W4.cell? ⟨g, 2, none⟩ = some v2 ∧ W4.cell? ⟨g, 3, none⟩ = some v3 ∧ W4.cell? ⟨g, 4, none⟩ = some v4 ∧ Below B w W4 := by
  have o : ∀ (V : World) (i j : Nat) (v : Value), i ≠ j → (V.setCell ⟨g, i, none⟩ v).cell? ⟨g, j, none⟩ = V.cell? ⟨g, j, none⟩ := fun V i j v h => World.cell?_setCell_other _ _ _ _ (fun e => h (Addr.mk.inj e).2.1)
  intro W4
  refine ⟨?_, ?_, ?_, ?_, ?_, ?_⟩
  · show World.cell? (World.setCell _ _ _) _ = _
    rw [o _ _ _ _ (by decide), o _ _ _ _ (by decide), o _ _ _ _ (by decide), o _ _ _ _ (by decide)]
    exact World.cell?_setCell_same' _ _ _ (by rw [h0]; rfl)
  · show World.cell? (World.setCell _ _ _) _ = _
    rw [o _ _ _ _ (by decide), o _ _ _ _ (by decide), o _ _ _ _ (by decide)]
    exact World.cell?_setCell_same' _ _ _ (by rw [o _ _ _ _ (by decide), h1]; rfl)
  · show World.cell? (World.setCell _ _ _) _ = _
    rw [o _ _ _ _ (by decide), o _ _ _ _ (by decide)]
    exact World.cell?_setCell_same' _ _ _ (by rw [o _ _ _ _ (by decide), o _ _ _ _ (by decide), h2]; rfl)
  · show World.cell? (World.setCell _ _ _) _ = _
    rw [o _ _ _ _ (by decide)]
    exact World.cell?_setCell_same' _ _ _ (by rw [o _ _ _ _ (by decide), o _ _ _ _ (by decide), o _ _ _ _ (by decide), h3]; rfl)
  · exact World.cell?_setCell_same' _ _ _ (by rw [o _ _ _ _ (by decide), o _ _ _ _ (by decide), o _ _ _ _ (by decide), o _ _ _ _ (by decide), h4]; rfl)
  · exact below_putB (below_putB (below_putB (below_putB (below_putB hb hg _ _) hg _ _) hg _ _) hg _ _) hg _ _

set_option maxRecDepth 100000 in
set_option maxHeartbeats 400000 in
theorem sclone_any (s : ByteArray) (hs : s.size ≤ 1000000) (w : World) : Calls Tryz.prog 87 #[.string s] w fun e w' => e = .returned (.string s) ∧ Below w.heap.size w w' := by
  have hc := Tryz.stringslite_Clone s w (by omega)
  go_enter Tryz.func87, Tryz.ntmps87
  go_wp2_with (go_at_call 114; go_must (refine hc.mono ?_; rintro e w1 ⟨rfl, hb⟩))
  go_ret
  exact ⟨rfl, hb⟩

set_option maxRecDepth 100000 in
set_option maxHeartbeats 2000000 in
theorem rowntab_any (x1 x2 x3 : Int) (x4 x5 : ByteArray) (h4 : x4.size ≤ 1000000) (h5 : x5.size ≤ 1000000) (w : World) : Calls Tryz.prog 38 #[.agg #[.int .i64 x1, .int .i64 x2, .int .i64 x3, .string x4, .string x5]] w fun e w' => e = .returned (.agg #[.int .i64 x1, .int .i64 x2, .int .i64 x3, .string x4, .string x5]) ∧ Below w.heap.size w w' := by
  have hcl4 := fun W => sclone_any x4 h4 W
  have hcl5 := fun W => sclone_any x5 h5 W
  obtain ⟨W0, hW0⟩ : ∃ W0, W0 = (w.alloc (.cells #[.int .i64 x1, .int .i64 x2, .int .i64 x3, .string x4, .string x5] 44)).alloc (.cells #[.int .i64 0, .int .i64 0, .int .i64 0, .string ⟨#[]⟩, .string ⟨#[]⟩] 44) := ⟨_, rfl⟩
  have hb0 : Below w.heap.size w W0 := by rw [hW0]; exact below_two _ _ _
  have e0 : W0.heap[w.heap.size]? = some (.cells #[.int .i64 x1, .int .i64 x2, .int .i64 x3, .string x4, .string x5] 44 (0, 0)) := by
    rw [hW0]; exact (Below.heap_alloc _ _ _ (by simp)).trans (heap_alloc_new _ _)
  have e1 : W0.heap[w.heap.size + 1]? = some (.cells #[.int .i64 0, .int .i64 0, .int .i64 0, .string ⟨#[]⟩, .string ⟨#[]⟩] 44 (0, 0)) := by
    rw [hW0]; have := heap_alloc_new (w.alloc (.cells #[.int .i64 x1, .int .i64 x2, .int .i64 x3, .string x4, .string x5] 44)) (.cells #[.int .i64 0, .int .i64 0, .int .i64 0, .string ⟨#[]⟩, .string ⟨#[]⟩] 44); rwa [World.size_alloc] at this
  have HV : Hid (∀ W, Below W0.heap.size W0 W → W.cell? ⟨w.heap.size, 3, none⟩ = some (.string x4) ∧ W.cell? ⟨w.heap.size, 4, none⟩ = some (.string x5)) := (fun W h => by
    have k := (blkc ((h.block _ (ob_ltB e0)).trans e0)).1
    exact ⟨k 3, k 4⟩ : ∀ W, Below W0.heap.size W0 W → W.cell? ⟨w.heap.size, 3, none⟩ = some (.string x4) ∧ W.cell? ⟨w.heap.size, 4, none⟩ = some (.string x5))
  obtain ⟨m3, m4⟩ := HV.out W0 (Below.refl _ _)
  have tok : Hid (0 = 0) := (rfl : 0 = 0)
  go_enter Tryz.func38, Tryz.ntmps38
  go_wp2_with fail
  rw [← hW0]
  have HW0 : Hid (W0 = _) := hW0
  have E0 : Hid (W0.heap[w.heap.size]? = _) := e0
  have E1 : Hid (W0.heap[w.heap.size + 1]? = _) := e1
  clear hW0 e0 e1
  go_region_held3 (fun W => W.cell? ⟨w.heap.size, 3, none⟩ = some (.string x4) ∧ W.cell? ⟨w.heap.size, 4, none⟩ = some (.string x5)) (first | go_keep | (refine ⟨?_, ?_⟩ <;> assumption))
    (first
      | (go_at_call 87; clear tok; refine (hcl4 _).mono ?_; rintro e w1 ⟨rfl, b1⟩; have hb1 := below_of_drew b1; obtain ⟨k3, k4⟩ := HV.out w1 hb1)
      | (go_at_call 87; refine (hcl5 _).mono ?_; rintro e w2 ⟨rfl, b2⟩; have hb2 := hb1.trans (b2.mono hb1.size); obtain ⟨l3, l4⟩ := HV.out w2 hb2; have fz3 := (blkc ((hb2.block _ (ob_ltB E0.out)).trans E0.out)).2 3; have fz4 := (blkc ((hb2.block _ (ob_ltB E0.out)).trans E0.out)).2 4; obtain ⟨s3, s4, t3, t4⟩ := set34 l3 l4))
  obtain ⟨W3, hW3⟩ : ∃ W3, W3 = (w2.setCell ⟨w.heap.size, 3, none⟩ (.string x4)).setCell ⟨w.heap.size, 4, none⟩ (.string x5) := ⟨_, rfl⟩
  rw [← hW3]
  have hb3 : Below w.heap.size w W3 := by
    rw [hW3]
    exact below_putB (below_putB (hb0.trans (hb2.mono hb0.size)) (Nat.le_refl _) _ _) (Nat.le_refl _) _ _
  have z0 := (blkc ((hb2.block _ (ob_ltB E0.out)).trans E0.out)).1
  have y0 : W3.cell? ⟨w.heap.size, 0, none⟩ = some (.int .i64 x1) := by rw [hW3, World.cell?_setCell_other _ _ _ _ (by simp), World.cell?_setCell_other _ _ _ _ (by simp)]; exact z0 0
  have y1 : W3.cell? ⟨w.heap.size, 1, none⟩ = some (.int .i64 x2) := by rw [hW3, World.cell?_setCell_other _ _ _ _ (by simp), World.cell?_setCell_other _ _ _ _ (by simp)]; exact z0 1
  have y2 : W3.cell? ⟨w.heap.size, 2, none⟩ = some (.int .i64 x3) := by rw [hW3, World.cell?_setCell_other _ _ _ _ (by simp), World.cell?_setCell_other _ _ _ _ (by simp)]; exact z0 2
  have y3 : W3.cell? ⟨w.heap.size, 3, none⟩ = some (.string x4) := by rw [hW3]; exact t3
  have y4 : W3.cell? ⟨w.heap.size, 4, none⟩ = some (.string x5) := by rw [hW3]; exact t4
  have hr1 : W3.heap[w.heap.size + 1]? = some (.cells #[.int .i64 0, .int .i64 0, .int .i64 0, .string ⟨#[]⟩, .string ⟨#[]⟩] 44 (0, 0)) := by
    rw [hW3]
    exact (Below.heap_setCell _ _ _ _ (by simp)).trans ((Below.heap_setCell _ _ _ _ (by simp)).trans ((hb2.block _ (ob_ltB E1.out)).trans E1.out))
  obtain ⟨r0, r1⟩ := blkc hr1
  have r00 := r0 0
  have r01 := r0 1
  have r02 := r0 2
  have r03 := r0 3
  have r04 := r0 4
  have HB3 : Hid (Below w.heap.size w W3) := hb3
  clear hW3 hr1 r0 z0 s3 s4 t3 t4 l3 l4 k3 k4 m3 m4 hb3 hb2 hb1 b1 b2 E0 E1 HV HW0 fz3 fz4
  go_wp2
  obtain ⟨q0, q1, q2, q3, q4, hbq⟩ := put5 (w := w) r00 r01 r02 r03 r04 (by omega) HB3.out (v0 := .int .i64 x1) (v1 := .int .i64 x2) (v2 := .int .i64 x3) (v3 := .string x4) (v4 := .string x5)
  refine bodyPost_ret (v := .agg #[.int .i64 x1, .int .i64 x2, .int .i64 x3, .string x4, .string x5]) (by simp [results, Tryz.results38, go_sem, q0, q1, q2, q3, q4]) rfl ⟨rfl, hbq⟩
end Go.Proofs.YtmodogmjfbcddaaGreat
