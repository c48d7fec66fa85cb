/- What the program's 'one list's items, with its number' does. -/
import Derived.Test.YtchiilhdkbpboaaMC
namespace Go.Proofs.Ytchiilhdkbpboaa
open Go.RowKit

theorem yo_take {xs : List It.I} {k : Nat} (f : Nat) (hk : k < xs.length) : Mg.yo (xs.take (k + 1)) f = Mg.yo (xs.take k) f ++ [(xs.getD k It.zero, f)] := by
  unfold Mg.yo
  rw [List.take_add_one, List.getElem?_eq_getElem hk, List.map_append, List.getD_eq_getElem?_getD, List.getElem?_eq_getElem hk]
  rfl

set_option maxRecDepth 100000 in
set_option maxHeartbeats 2000000 in
theorem moflist_any (a : Option Addr) (n c : Nat) (gs : List IH) (xs : List It.I) (f : Nat) (w0 w : World) (hn : n ≤ 1000000) (hr : TRow 8 ih ihz w a n gs) (hall : ItAll w0 gs xs) :
    Calls Try.prog 32 #[.slice a n c, .int .i64 (f : Nat)] w (ORes w w0 (Mg.yo xs f)) := by
  have hll : Hid (xs.length = n) := hall.1.symm.trans hr.1
  obtain ⟨i0, hi0, hz0, hz1, hz2⟩ := info_parts orgE.info
  go_enter Try.func32, Try.ntmps32
  go_wp2_with (at_make; go_must (refine make_full _ rfl _ _ 55 rfl w.heap.size 68 i0 _ 9 Try.underlying55 hi0 hz0 hz1 .i64 .i64 n rfl rfl (by rw [hz2]; omega) (by unfold maxLen; omega) (Nat.le_refl _) ?_; intro w2 hmade hbel2))
  obtain ⟨g, hg⟩ : ∃ g, g = w.heap.size := ⟨_, rfl⟩
  rw [← hg] at hmade ⊢
  have hgB : w.heap.size ≤ g := by omega
  have Hg : Hid (g = w.heap.size) := hg
  clear hg hi0 hz0 hz1 hz2
  obtain ⟨rest0, hmade⟩ : ∃ r, w2.ownsRow w.heap.size 68 9 (.slice (some ⟨g, 0, none⟩) n n) n r := ⟨_, hmade.mono hgB⟩
  go_loopw [13] (fun i wr => ∃ (k : Nat) (os : List OH) (rest : List Value), k ≤ n ∧ i = .int .i64 k ∧ wr.ownsRow w.heap.size 68 9 (.slice (some ⟨g, 0, none⟩) n n) n (tcells oe os ++ rest) ∧ Hid (OAll w0 os (Mg.yo (xs.take k) f)) ∧ Hid (os.length = k) ∧ Below w.heap.size w wr) (fun i _ => n - (intOf i).toNat)
  case atStart => exact ⟨0, [], rest0, by omega, rfl, by simpa [tcells] using hmade, (OAll.nil w0 : OAll w0 [] (Mg.yo (xs.take 0) f)), (rfl : ([] : List OH).length = 0), hbel2⟩
  case round =>
    obtain ⟨k, os, rest, hk, rfl, hown, HO, Hk, hbel⟩ := hrel
    clear hmade hbel2
    by_cases hlt : k < n
    · obtain ⟨bb, off, rfl, hc⟩ := hr.items (by omega)
      have hk' : k < xs.length := by rw [hll.out]; exact hlt
      obtain ⟨y0, y1, y2, y3, y4, y5, y6, y7⟩ := (hc k hlt).below hbel (Nat.le_refl _)
      have HO2 : Hid (OAll w0 (os ++ [(⟨gs.getD k ihz, f⟩ : OH)]) (Mg.yo (xs.take (k + 1)) f)) := (by rw [yo_take f hk']; exact HO.out.snoc ⟨hall.2 k hk', rfl⟩ : OAll w0 (os ++ [(⟨gs.getD k ihz, f⟩ : OH)]) (Mg.yo (xs.take (k + 1)) f))
      have Hk2 : Hid ((os ++ [(⟨gs.getD k ihz, f⟩ : OH)]).length = k + 1) := (by rw [List.length_append, Hk.out]; rfl : (os ++ [(⟨gs.getD k ihz, f⟩ : OH)]).length = k + 1)
      generalize gs.getD k ihz = q at *
      obtain ⟨key, dead, far, qa, qn, qc, ⟨p1, p2, p3, p4⟩⟩ := q
      simp only at y0 y1 y2 y3 y4 y5 y6 y7
      have j0 : (0 : Int) ≤ (k : Int) := by omega
      have j1 : (k : Int) < (n : Int) := by omega
      have j2 : IntKind.i64.wrap ((k : Int) + 1) = (k : Int) + 1 := by rw [IntKind.wrap_i64]; omega
      have hcsl : Hid ((tcells oe os).length = k * 9) := (by rw [tcells_length oeE, Hk.out] : (tcells oe os).length = k * 9)
      have hrl : Hid (9 ≤ rest.length) := (by have h1 := hown.1; rw [List.length_append, hcsl.out] at h1; omega : 9 ≤ rest.length)
      have hgl := (own_lt hown).1
      have hn1 : ¬ (g = wr.heap.size) := by omega
      have hn2 : ¬ (wr.heap.size = g) := by omega
      have hbl : bb < wr.heap.size := Nat.lt_of_lt_of_le (cell_lt (hc k hlt).1) hbel.size
      have hn3 : ¬ (bb = wr.heap.size) := by omega
      obtain ⟨c0, c1, c2, c3, c4, c5, c6, c7, c8, e0, e1, e2, e3, e4, e5, e6, e7, e8⟩ := nine_left hcsl.out hrl.out
      have z0 := (own_cells hown e0).1
      have f0 := (own_cells hown e0).2
      have z1 := (own_cells hown e1).1
      have f1 := (own_cells hown e1).2
      have z2 := (own_cells hown e2).1
      have f2 := (own_cells hown e2).2
      have z3 := (own_cells hown e3).1
      have f3 := (own_cells hown e3).2
      have z4 := (own_cells hown e4).1
      have f4 := (own_cells hown e4).2
      have z5 := (own_cells hown e5).1
      have f5 := (own_cells hown e5).2
      have z6 := (own_cells hown e6).1
      have f6 := (own_cells hown e6).2
      have z7 := (own_cells hown e7).1
      have f7 := (own_cells hown e7).2
      have z8 := (own_cells hown e8).1
      have f8 := (own_cells hown e8).2
      clear e0 e1 e2 e3 e4 e5 e6 e7 e8 hc hk' HO
      have hown5 := (own_store (own_store (own_store (own_store (own_store (own_store (own_store (own_store (own_store hown (k * 9) (.string key)) (k * 9 + 1) (.bool dead)) (k * 9 + 2) (.bool far)) (k * 9 + 3) (.slice qa qn qc)) (k * 9 + 4) (.int .i64 p1)) (k * 9 + 5) (.int .i64 p2)) (k * 9 + 6) (.int .i64 p3)) (k * 9 + 7) (.int .u32 (p4 : Nat))) (k * 9 + 8) (.int .i64 (f : Nat)))
      rw [set_nine _ rest k hcsl.out hrl.out] at hown5
      have hgr5 := ((((((((((turned_set _ g (k * 9) (.string key)).trans (turned_set _ g (k * 9 + 1) (.bool dead))).trans (turned_set _ g (k * 9 + 2) (.bool far))).trans (turned_set _ g (k * 9 + 3) (.slice qa qn qc))).trans (turned_set _ g (k * 9 + 4) (.int .i64 p1))).trans (turned_set _ g (k * 9 + 5) (.int .i64 p2))).trans (turned_set _ g (k * 9 + 6) (.int .i64 p3))).trans (turned_set _ g (k * 9 + 7) (.int .u32 (p4 : Nat)))).trans (turned_set _ g (k * 9 + 8) (.int .i64 (f : Nat)))) : World.grownBy wr _ _)
      have hb4 := hbel.grown hgr5 hbel.size (fun k hk => by cases hk; exact hgB)
      have hb5 : Hid (_) := hb4.alloc hb4.size (.cells #[.string key, .bool dead, .bool far, .slice qa qn qc, .int .i64 p1, .int .i64 p2, .int .i64 p3, .int .u32 (p4 : Nat)] 37)
      rw [show tcells oe os ++ [.string key, .bool dead, .bool far, .slice qa qn qc, .int .i64 p1, .int .i64 p2, .int .i64 p3, .int .u32 (p4 : Nat), .int .i64 (f : Nat)] = tcells oe (os ++ [⟨⟨key, dead, far, qa, qn, qc, (p1, p2, p3, p4)⟩, f⟩]) by rw [tcells_append]; rfl] at hown5
      have hown6 : Hid (_) := hown5.alloc (.cells #[.string key, .bool dead, .bool far, .slice qa qn qc, .int .i64 p1, .int .i64 p2, .int .i64 p3, .int .u32 (p4 : Nat)] 37)
      clear hb4 hgr5 hown5 hown
      go_wp2
      go_roundw
      case rel => exact ⟨k + 1, _, rest.drop 9, by omega, by go_num, hown6.out, HO2, Hk2, hb5.out⟩
      case measure => simp [intOf]; omega
    · obtain rfl : k = n := by omega
      have hrn : rest = [] := by
        have h1 := hown.1
        rw [List.length_append, tcells_length oeE, Hk.out] at h1
        exact List.length_eq_zero_iff.mp (by omega)
      subst hrn
      rw [List.append_nil] at hown
      have HO2 : Hid (OAll w0 os (Mg.yo xs f)) := (by have h := HO.out; rw [List.take_of_length_le (by rw [hll.out]; omega)] at h; exact h : OAll w0 os (Mg.yo xs f))
      clear HO
      go_wp2
      go_ret
      exact ores_some rfl (by unfold Mg.yo; rw [List.length_map, hll.out]) hown HO2.out hbel
end Go.Proofs.Ytchiilhdkbpboaa
