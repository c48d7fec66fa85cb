/- The law PointOrders, given the program's contracts. -/
import Derived.Test.YtmafbgfldojbbaaS8
import Derived.Test.YtmafbgfldojbbaaT10
import Derived.Test.YtmafbgfldojbbaaO2
namespace Go.Proofs.Ytmafbgfldojbbaa
open Go.RowKit

set_option maxRecDepth 100000 in
set_option maxHeartbeats 1000000 in
theorem poorders_long (hP : PPutC) (a : Option Addr) (len cap : Nat) (f g : Po.P) (w : World) (hl : 60 < len) :
    Calls Try.prog 6 #[.slice a len cap, pv f, pv g] w fun e w' => e = .returned (.bool true) ∧ Below w.heap.size w w' := by
  have hA := fun w => poawake hP w
  obtain ⟨s, y, l, m⟩ := f
  obtain ⟨s', y', l', m'⟩ := g
  simp only [pv]
  have hb0 : Below w.heap.size w ((w.alloc (.cells #[.int .i64 s, .int .i64 y, .int .i64 l, .int .u32 (m : Nat)] 24)).alloc (.cells #[.int .i64 s', .int .i64 y', .int .i64 l', .int .u32 (m' : Nat)] 24)) := (below_alloc _ _).alloc (by simp) _
  go_enter Try.func6, Try.ntmps6
  go_wp2_with (go_at_call 10; go_must (refine (hA _).mono ?_; rintro e w2 ⟨rfl, hbel2⟩))
  go_ret
  exact ⟨rfl, hb0.trans (hbel2.mono hb0.size)⟩

set_option maxRecDepth 100000 in
set_option maxHeartbeats 2000000 in
theorem poorders_any (hP : PPutC) (hL : PLessC) (hO : POrdC) (a : Option Addr) (len cap : Nat) (ps : List Po.P) (f g : Po.P) (w : World) (hl : len ≤ 60) (hp : IsPoints w a len cap ps) (hf : Po.Fits f) (hg : Po.Fits g) :
    Calls Try.prog 6 #[.slice a len cap, pv f, pv g] w fun e w' => e = .returned (.bool true) ∧ Below w.heap.size w w' := by
  have hA := fun w => poawake hP w
  obtain ⟨hr, hnil, hshape, _⟩ := hp
  have hl1 := fun W => hL f g W hf hg
  have hl2 := fun W => poless_any f g W
  have ho1 := fun W (h : Below w.heap.size w W) => hO a len cap ps W (by omega) (hr.below h (Nat.le_refl _)) hnil hshape
  have ho2 := fun W (h : Below w.heap.size w W) => poreford_any a len cap ps W (by omega) (hr.below h (Nat.le_refl _)) (prow_fits hr)
  have hol : Hid ((Po.ord ps).length = len) := (by rw [Po.ord_len]; exact hr.1 : (Po.ord ps).length = len)
  have hofit : Hid (∀ q ∈ Po.ord ps, Po.Fits q) := (fun q hq => prow_fits hr q (Po.ord_mem _ q hq) : ∀ q ∈ Po.ord ps, Po.Fits q)
  unfold POrdRes at ho2
  rw [hol.out] at ho2
  generalize Po.ord ps = O at *
  generalize Po.less f g = r at *
  obtain ⟨s, y, l, m⟩ := f
  obtain ⟨s', y', l', m'⟩ := g
  simp only [pv] at hl1 hl2 ⊢
  have hb0 : Below w.heap.size w ((w.alloc (.cells #[.int .i64 s, .int .i64 y, .int .i64 l, .int .u32 (m : Nat)] 24)).alloc (.cells #[.int .i64 s', .int .i64 y', .int .i64 l', .int .u32 (m' : Nat)] 24)) := (below_alloc _ _).alloc (by simp) _
  have hk : Hid (∀ W, Below ((w.alloc (.cells #[.int .i64 s, .int .i64 y, .int .i64 l, .int .u32 (m : Nat)] 24)).alloc (.cells #[.int .i64 s', .int .i64 y', .int .i64 l', .int .u32 (m' : Nat)] 24)).heap.size ((w.alloc (.cells #[.int .i64 s, .int .i64 y, .int .i64 l, .int .u32 (m : Nat)] 24)).alloc (.cells #[.int .i64 s', .int .i64 y', .int .i64 l', .int .u32 (m' : Nat)] 24)) W →
      (W.cell? ⟨w.heap.size, 0, none⟩ = some (.int .i64 s) ∧ W.cell? ⟨w.heap.size, 1, none⟩ = some (.int .i64 y) ∧ W.cell? ⟨w.heap.size, 2, none⟩ = some (.int .i64 l) ∧ W.cell? ⟨w.heap.size, 3, none⟩ = some (.int .u32 (m : Nat))) ∧
      (W.cell? ⟨w.heap.size + 1, 0, none⟩ = some (.int .i64 s') ∧ W.cell? ⟨w.heap.size + 1, 1, none⟩ = some (.int .i64 y') ∧ W.cell? ⟨w.heap.size + 1, 2, none⟩ = some (.int .i64 l') ∧ W.cell? ⟨w.heap.size + 1, 3, none⟩ = some (.int .u32 (m' : Nat))) ∧ Below w.heap.size w W) := by
    refine (fun W h => ?_ : ∀ W, Below _ _ W → _)
    have h1 : Below (w.alloc (.cells #[.int .i64 s, .int .i64 y, .int .i64 l, .int .u32 (m : Nat)] 24)).heap.size (w.alloc (.cells #[.int .i64 s, .int .i64 y, .int .i64 l, .int .u32 (m : Nat)] 24)) W := (below_alloc _ _).trans (h.mono (by simp))
    obtain ⟨k0, k1, k2, k3, _, _⟩ := four_keep h1
    obtain ⟨z0, z1, z2, z3, _, _⟩ := four_keep h
    simp only [World.size_alloc] at z0 z1 z2 z3
    exact ⟨⟨k0, k1, k2, k3⟩, ⟨z0, z1, z2, z3⟩, hb0.trans (h.mono hb0.size)⟩
  go_enter Try.func6, Try.ntmps6
  go_wp2_with fail
  obtain ⟨⟨k0, k1, k2, k3⟩, ⟨z0, z1, z2, z3⟩, _⟩ := hk.out _ (Below.refl _ _)
  generalize (w.alloc (.cells #[.int .i64 s, .int .i64 y, .int .i64 l, .int .u32 (m : Nat)] 24)).alloc (.cells #[.int .i64 s', .int .i64 y', .int .i64 l', .int .u32 (m' : Nat)] 24) = W0 at *
  clear hr hnil hshape
  go_region_held3 (fun w' => w'.cell? ⟨w.heap.size, 0, none⟩ = some (.int .i64 s) ∧ w'.cell? ⟨w.heap.size, 1, none⟩ = some (.int .i64 y) ∧ w'.cell? ⟨w.heap.size, 2, none⟩ = some (.int .i64 l) ∧ w'.cell? ⟨w.heap.size, 3, none⟩ = some (.int .u32 (m : Nat)) ∧ w'.cell? ⟨w.heap.size + 1, 0, none⟩ = some (.int .i64 s') ∧ w'.cell? ⟨w.heap.size + 1, 1, none⟩ = some (.int .i64 y') ∧ w'.cell? ⟨w.heap.size + 1, 2, none⟩ = some (.int .i64 l') ∧ w'.cell? ⟨w.heap.size + 1, 3, none⟩ = some (.int .u32 (m' : Nat))) (first | go_keep | (refine ⟨?_, ?_, ?_, ?_, ?_, ?_, ?_, ?_⟩ <;> assumption))
    (first
      | ((go_at_call 10; have := hB5; refine (hA _).mono ?_; rintro e w6 ⟨rfl, hbel6⟩; have hB6 := hB5.trans (hbel6.mono hB5.size); obtain ⟨⟨t50, t51, t52, t53⟩, ⟨t54, t55, t56, t57⟩, hw6⟩ := hk.out w6 hB6))
      | ((go_at_call 17; have := hB4; refine (psame_any _ _ _ O _ _ _ O _ (hrow3.below hbel4 (Nat.le_refl _)) (prow_of_owns hown4 hofit.out (by omega)).1 rfl).mono ?_; rintro e w5 ⟨rfl, n5, rfl⟩; have hB5 := hB4.trans (below_drewN W0.heap.size w4 n5); obtain ⟨⟨t40, t41, t42, t43⟩, ⟨t44, t45, t46, t47⟩, hw5⟩ := hk.out _ hB5))
      | ((go_at_call 19; have := hB3; refine (ho2 _ hw3).mono ?_; rintro e w4 ⟨a4, c4, rfl, hown4, hbel4⟩; have hB4 := hB3.trans (hbel4.mono hB3.size); obtain ⟨⟨t30, t31, t32, t33⟩, ⟨t34, t35, t36, t37⟩, hw4⟩ := hk.out w4 hB4))
      | ((go_at_call 18; have := hB2; refine (ho1 _ hw2).mono ?_; rintro e w3 ⟨a3, c3, rfl, hrow3, hbel3⟩; have hB3 := hB2.trans (hbel3.mono hB2.size); obtain ⟨⟨t20, t21, t22, t23⟩, ⟨t24, t25, t26, t27⟩, hw3⟩ := hk.out w3 hB3))
      | ((go_at_call 16; have := hB1; refine (hl2 _).mono ?_; rintro e w2 ⟨rfl, hbel2⟩; have hB2 := hB1.trans (hbel2.mono hB1.size); obtain ⟨⟨t10, t11, t12, t13⟩, ⟨t14, t15, t16, t17⟩, hw2⟩ := hk.out w2 hB2))
      | ((go_at_call 15; refine (hl1 _).mono ?_; rintro e w1 ⟨rfl, hbel1⟩; have hB1 := below_of_drew hbel1; obtain ⟨⟨t00, t01, t02, t03⟩, ⟨t04, t05, t06, t07⟩, hw1⟩ := hk.out w1 hB1)))
  all_goals
    go_wp2
    go_ret
    exact ⟨rfl, hw6⟩
end Go.Proofs.Ytmafbgfldojbbaa
