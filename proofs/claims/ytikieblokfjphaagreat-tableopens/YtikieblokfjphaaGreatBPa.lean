/- What the program's Alike does. -/
import Derived.Test.YtikieblokfjphaaGreatBL1
import Derived.Test.YtikieblokfjphaaGreatMa
import Derived.Deep.QuietTactic
import Derived.BigQuiet
import Derived.Test.YtikieblokfjphaaGreatBLb
import Derived.Test.YtikieblokfjphaaGreatBXb
import Derived.Test.YtikieblokfjphaaGreatTS
namespace Go.Proofs.YtikieblokfjphaaGreat
open Go.RowKit

set_option maxRecDepth 100000 in
set_option maxHeartbeats 2000000 in
theorem palike_q (s t : ByteArray) (w : World) (hs : s.size ≤ 1000) (_ : t.size ≤ 1000) :
    Calls Tryz.prog 101 #[.string s, .string t] w fun e w' => e = .returned (.int .i64 (Bl.alike (kb s) (kb t) : Nat)) ∧ ∃ q, w' = w.drewN q := by
  obtain ⟨N, hN⟩ : ∃ N : Nat, N = min s.size t.size := ⟨_, rfl⟩
  have HN : Hid (N = s.size ∨ N = t.size) := (by omega : N = s.size ∨ N = t.size)
  have n1 : N ≤ s.size := by omega
  have n2 : N ≤ t.size := by omega
  have n3 : min (s.size : Int) (t.size : Int) = (N : Int) := by omega
  clear hN
  go_enter Tryz.func101, Tryz.ntmps101
  go_wp2
  clear n3
  go_loopw [13] (fun i wr => ∃ k : Nat, k ≤ N ∧ i = .int .i64 k ∧ Hid (∀ j, j < k → (kb s).getD j 0 = (kb t).getD j 0) ∧ ∃ q, wr = w.drewN q) (fun i _ => N - (intOf i).toNat)
  case atStart => exact ⟨0, by omega, rfl, (fun j hj => by omega : ∀ j, j < 0 → (kb s).getD j 0 = (kb t).getD j 0), 0, rfl⟩
  case round =>
    obtain ⟨k, hk, rfl, H, q0, rfl⟩ := hrel
    by_cases h0 : k < N
    · have h1 : k < s.size := by omega
      have h2 : k < t.size := by omega
      have i0 : (0 : Int) ≤ (k : Int) := by omega
      have i1 : (k : Int) < (s.size : Int) := by omega
      have i2 : (k : Int) < (t.size : Int) := by omega
      have h4 := kb_at h1
      have h5 := kb_at h2
      obtain ⟨x, hx⟩ : ∃ x, (s[k]'h1).toNat = x := ⟨_, rfl⟩
      obtain ⟨y, hy⟩ : ∃ y, (t[k]'h2).toNat = y := ⟨_, rfl⟩
      rw [hx] at h4
      rw [hy] at h5
      by_cases h3 : x = y
      · have H2 : Hid (∀ j, j < k + 1 → (kb s).getD j 0 = (kb t).getD j 0) := (fun j hj => by
          rcases Nat.lt_or_ge j k with h' | h'
          · exact H.out j h'
          · obtain rfl : j = k := by omega
            rw [h4, h5]; exact h3 : ∀ j, j < k + 1 → (kb s).getD j 0 = (kb t).getD j 0)
        have hxy : ((x : Int) == (y : Int)) = true := by simp; omega
        clear h4 h5 H
        go_wp2_with fail
        go_quiet (fail)
        go_wp2
        go_roundw
        case rel => exact ⟨k + 1, by omega, by go_num, H2, _, by first | rfl | exact (World.drewN_drewN _ _ _)⟩
        case measure => simp [intOf]; omega
      · have E : Hid (Bl.alike (kb s) (kb t) = k) := Bl.alike_at _ _ k (by rw [kb_len]; omega) (by rw [kb_len]; omega) H.out (.inr (.inr (by rw [h4, h5]; exact h3)))
        have hxy : ((x : Int) == (y : Int)) = false := by simp; omega
        clear h4 h5 H
        go_wp2_with fail
        go_quiet (fail)
        go_wp2
        go_ret
        exact ⟨by rw [E.out]; rfl, _, by first | rfl | exact (World.drewN_drewN _ _ _)⟩
    · obtain rfl : k = N := by omega
      have E : Hid (Bl.alike (kb s) (kb t) = k) := Bl.alike_at _ _ k (by rw [kb_len]; omega) (by rw [kb_len]; omega) H.out (by rw [kb_len, kb_len]; exact HN.out.elim .inl (fun h => .inr (.inl h)))
      clear H HN
      go_wp2
      go_ret
      exact ⟨by rw [E.out]; rfl, _, by first | rfl | exact (World.drewN_drewN _ _ _)⟩
theorem palike_any (s t : ByteArray) (w : World) (hs : s.size ≤ 1000) (ht : t.size ≤ 1000) :
    Calls Tryz.prog 101 #[.string s, .string t] w fun e w' => e = .returned (.int .i64 (Bl.alike (kb s) (kb t) : Nat)) ∧ Below w.heap.size w w' :=
  (palike_q s t w hs ht).mono fun _ _ h => ⟨h.1, by obtain ⟨q, rfl⟩ := h.2; exact below_drewN _ _ _⟩
end Go.Proofs.YtikieblokfjphaaGreat

/- What the program's bytesOf and Put of a block do. -/
namespace Go.Proofs.YtikieblokfjphaaGreat
open Go.RowKit

/-! a block told by its object -/
theorem obj_lt {W : World} {g : Nat} {x : Obj} (h : W.heap[g]? = some x) : g < W.heap.size := by
  rcases Nat.lt_or_ge g W.heap.size with h1 | h1
  · exact h1
  · rw [Array.getElem?_eq_none h1] at h; cases h
theorem obj_alloc {W : World} {g : Nat} {x : Obj} (h : W.heap[g]? = some x) (o : Obj) : (W.alloc o).heap[g]? = some x := by
  rw [Below.heap_alloc W o g (obj_lt h)]
  exact h
theorem obj_below {W W' : World} {g : Nat} {x : Obj} (h : W.heap[g]? = some x) (hb : Below W.heap.size W W') : W'.heap[g]? = some x := (hb.block g (obj_lt h)).trans h
theorem it_apart {W : World} {g B n : Nat} {v : Value} {cs : Array Value} {xs : List Value} {fz : Nat × Nat} (h : W.heap[g]? = some (.cells cs 40 fz)) (hown : W.ownsRow B 5 1 v n xs) : some g ≠ v.ownBlock := by
  intro e
  rcases hown.2 with ⟨rfl, _⟩ | ⟨k, cap, cur, rfl, _, hk, _⟩
  · cases e
  · have : g = k := by simpa [Value.ownBlock] using e
    subst this
    rw [h] at hk
    simp only [Option.some.injEq, Obj.cells.injEq] at hk
    exact absurd hk.2.1 (by decide)
theorem it_grown {W W' : World} {g B n : Nat} {v : Value} {cs : Array Value} {xs : List Value} {fz : Nat × Nat} (h : W.heap[g]? = some (.cells cs 40 fz)) (hown : W.ownsRow B 5 1 v n xs) (hg : W.grownBy W' v.ownBlock) : W'.heap[g]? = some (.cells cs 40 fz) := (hg.block g (obj_lt h) (it_apart h hown)).trans h
theorem it_cells {W : World} {g : Nat} {c0 c1 c2 c3 c4 c5 c6 c7 : Value} {e : TypeId} (h : W.heap[g]? = some (.cells #[c0, c1, c2, c3, c4, c5, c6, c7] e (0, 0))) : W.cell? ⟨g, 0, none⟩ = some c0 ∧ W.cell? ⟨g, 1, none⟩ = some c1 ∧ W.cell? ⟨g, 2, none⟩ = some c2 ∧ W.cell? ⟨g, 3, none⟩ = some c3 ∧ W.cell? ⟨g, 4, none⟩ = some c4 ∧ W.cell? ⟨g, 5, none⟩ = some c5 ∧ W.cell? ⟨g, 6, none⟩ = some c6 ∧ W.cell? ⟨g, 7, none⟩ = some c7 := by
  have k : ∀ i, W.cell? ⟨g, i, none⟩ = #[c0, c1, c2, c3, c4, c5, c6, c7][i]? := fun i => by
    simp only [World.cell?, h]
    rfl
  exact ⟨k 0, k 1, k 2, k 3, k 4, k 5, k 6, k 7⟩

set_option maxRecDepth 100000 in
set_option maxHeartbeats 4000000 in
theorem bbytesof_walk (key s ex : ByteArray) (dead f : Bool) (a : Option Addr) (n c : Nat) (ps py pl : Int) (pm A : Nat) (w : World) (out oo pc : List Nat) (hks : key.size ≤ 64) (hA : A ≤ key.size)
    (hex : Hid (key.extract A key.size = ex)) (hxs : ex.size ≤ 64)
    (hpc : ∀ u ∈ pc, u < lim .u8) (hl1 : oo.length ≤ 20) (hp1 : 0 < oo.length) (hl3 : pc.length ≤ 200)
    (hal : ∀ W, Calls Tryz.prog 101 #[.string s, .string key] W fun e w' => e = .returned (.int .i64 (A : Nat)) ∧ Below W.heap.size W w')
    (hput : ∀ (W : World) (q : Addr), Row .u64 W (some q) 2 [A, ex.size] → Calls Tryz.prog 39 #[.slice (some q) 2 2] W (Made .u8 5 W oo))
    (hcp : dead = false → ∀ W, Below w.heap.size w W → Calls Tryz.prog 102 #[.agg #[.bool f, .slice a n c, .int .i64 ps, .int .i64 py, .int .i64 pl, .int .u32 (pm : Nat)]] W fun e w' => ∃ a c, e = .returned (.tuple #[.slice a pc.length c, .int .i64 0]) ∧ w'.ownsRow W.heap.size 5 1 (.slice a pc.length c) pc.length (kcells .u8 pc) ∧ Below W.heap.size W w')
    (HO : Hid (out = oo ++ kb ex ++ (if dead = true then [1] else [0] ++ pc))) :
    Calls Tryz.prog 83 #[.agg #[.string key, .bool dead, .bool f, .slice a n c, .int .i64 ps, .int .i64 py, .int .i64 pl, .int .u32 (pm : Nat)], .string s] w (Made .u8 5 w out) := by
  have hE0 : Hid ((w.alloc (.cells #[.string key, .bool dead, .bool f, .slice a n c, .int .i64 ps, .int .i64 py, .int .i64 pl, .int .u32 (pm : Nat)] 40)).heap[w.heap.size]? = some (.cells #[.string key, .bool dead, .bool f, .slice a n c, .int .i64 ps, .int .i64 py, .int .i64 pl, .int .u32 (pm : Nat)] 40)) := heap_alloc_new w _
  have hb0 := below_alloc w (.cells #[.string key, .bool dead, .bool f, .slice a n c, .int .i64 ps, .int .i64 py, .int .i64 pl, .int .u32 (pm : Nat)] 40)
  have i1 : IntKind.u64.wrap (A : Int) = (A : Int) := by simp only [IntKind.wrap_u64]; omega
  have i3 : IntKind.u64.wrap (ex.size : Int) = (ex.size : Int) := by simp only [IntKind.wrap_u64]; omega
  have j0 : (0 : Int) ≤ (A : Int) := by omega
  have j1 : (A : Int) ≤ (key.size : Int) := by omega
  have hexo := hex.out
  have hrw : ∀ W : World, Hid (Row .u64 (W.alloc (.cells #[.int .u64 (A : Nat), .int .u64 (ex.size : Nat)] 83)) (some ⟨W.heap.size, 0, none⟩) 2 [A, ex.size]) := fun W => (row_lit .u64 W 83 _ [A, ex.size] 2 rfl rfl (by intro x hx; simp only [List.mem_cons, List.not_mem_nil, or_false] at hx; show x < 18446744073709551616; omega) (by omega) : Row .u64 (W.alloc (.cells #[.int .u64 (A : Nat), .int .u64 (ex.size : Nat)] 83)) (some ⟨W.heap.size, 0, none⟩) 2 [A, ex.size])
  cases dead with
  | true =>
    have HE : Hid (out = oo ++ kb ex ++ [1]) := (by rw [HO.out, if_pos rfl] : out = oo ++ kb ex ++ [1])
    clear HO hcp
    go_enter Tryz.func83, Tryz.ntmps83
    go_wp2_with (first
      | (go_at_call 101; go_must (refine (hal _).mono ?_; rintro e w1 ⟨rfl, hbel1⟩; have hE1 : Hid (_) := obj_below hE0.out hbel1; have hb1 := hb0.trans (hbel1.mono hb0.size); obtain ⟨x0, x1, x2, x3, x4, x5, x6, x7⟩ := it_cells hE1.out))
      | (go_at_call 39; go_must (refine (hput _ _ (hrw w1).out).mono ?_; rintro e w2 ⟨a2, c2, rfl, hown2, hbel2⟩; have hbA := hb1.alloc hb1.size (.cells #[.int .u64 (A : Nat), .int .u64 (ex.size : Nat)] 83); have hE2 : Hid (_) := obj_below (obj_alloc hE1.out (.cells #[.int .u64 (A : Nat), .int .u64 (ex.size : Nat)] 83)) hbel2; have hb2 := hbA.trans (hbel2.mono hbA.size); have hown2' := hown2.mono (base' := w.heap.size) hbA.size; obtain ⟨y0, y1, y2, y3, y4, y5, y6, y7⟩ := it_cells hE2.out))
      | (at_builtin; have := hE3; go_must (refine append_u8g (w0 := w) (B := w.heap.size) rfl (.tmp 30) (.tmp 31) rfl _ (oo.length + ex.size) (oo ++ kb ex) rfl (hown3.alloc _) _ 1 1 [1] rfl (row_at .u8 w3 5 1 1 rfl rfl (by decide)) (fun h => by cases h) (by omega) (hb3.alloc hsz3 _) (Nat.le_trans hsz3 (by simp)) ?_; intro a4 c4 w4 hown4 hb4 hsz4 hg4; have hE4 : Hid (_) := it_grown (obj_alloc hE3.out _) (hown3.alloc _) hg4; obtain ⟨v0, v1, v2, v3, v4, v5, v6, v7⟩ := it_cells hE4.out))
      | (at_builtin; have := hE2; go_must (refine append_str (w0 := w) (B := w.heap.size) rfl (.tmp 25) (.tmp 26) rfl _ oo.length oo rfl hown2' ex rfl (by omega) hb2 hb2.size ?_; intro a3 c3 w3 hown3 hb3 hsz3 hg3; have hE3 : Hid (_) := it_grown hE2.out hown2' hg3; obtain ⟨z0, z1, z2, z3, z4, z5, z6, z7⟩ := it_cells hE3.out)))
    go_ret
    have hlen : out.length = oo.length + ex.size + 1 := by rw [HE.out]; simp only [List.length_append, List.length_singleton, kb_len]
    refine ⟨a4, c4, ?_, ?_, hb4⟩
    · rw [hlen]; rfl
    · rw [hlen, HE.out]; exact hown4
  | false =>
    have HE : Hid (out = oo ++ kb ex ++ [0] ++ pc) := (by rw [HO.out, if_neg (by decide)]; simp : out = oo ++ kb ex ++ [0] ++ pc)
    have hcp2 := hcp rfl
    clear HO hcp
    go_enter Tryz.func83, Tryz.ntmps83
    go_wp2_with (first
      | (go_at_call 101; go_must (refine (hal _).mono ?_; rintro e w1 ⟨rfl, hbel1⟩; have hE1 : Hid (_) := obj_below hE0.out hbel1; have hb1 := hb0.trans (hbel1.mono hb0.size); obtain ⟨x0, x1, x2, x3, x4, x5, x6, x7⟩ := it_cells hE1.out))
      | (go_at_call 39; go_must (refine (hput _ _ (hrw w1).out).mono ?_; rintro e w2 ⟨a2, c2, rfl, hown2, hbel2⟩; have hbA := hb1.alloc hb1.size (.cells #[.int .u64 (A : Nat), .int .u64 (ex.size : Nat)] 83); have hE2 : Hid (_) := obj_below (obj_alloc hE1.out (.cells #[.int .u64 (A : Nat), .int .u64 (ex.size : Nat)] 83)) hbel2; have hb2 := hbA.trans (hbel2.mono hbA.size); have hown2' := hown2.mono (base' := w.heap.size) hbA.size; obtain ⟨y0, y1, y2, y3, y4, y5, y6, y7⟩ := it_cells hE2.out))
      | (go_at_call 102; go_must (refine (hcp2 _ hb4).mono ?_; rintro e w5 ⟨a5, c5, rfl, hown5, hbel5⟩; have hb5 := hb4.trans (hbel5.mono hsz4); have hr5 := row_of_owns hown5 hpc (by omega); have hk5 := owns_below hown4 hbel5))
      | (at_builtin; have := hk5; go_must (refine append_u8g (w0 := w) (B := w.heap.size) rfl (.tmp 42) (.tmp 43) rfl _ (oo.length + ex.size + 1) (oo ++ kb ex ++ [0]) rfl hk5 a5 pc.length c5 pc rfl hr5.1 hr5.2.1 (by omega) hb5 hb5.size ?_; intro a6 c6 w6 hown6 hb6 hsz6 hg6))
      | (at_builtin; have := hE3; go_must (refine append_u8g (w0 := w) (B := w.heap.size) rfl (.tmp 33) (.tmp 34) rfl _ (oo.length + ex.size) (oo ++ kb ex) rfl (hown3.alloc _) _ 1 1 [0] rfl (row_at .u8 w3 5 0 0 rfl rfl (by decide)) (fun h => by cases h) (by omega) (hb3.alloc hsz3 _) (Nat.le_trans hsz3 (by simp)) ?_; intro a4 c4 w4 hown4 hb4 hsz4 hg4; have hE4 : Hid (_) := it_grown (obj_alloc hE3.out _) (hown3.alloc _) hg4; obtain ⟨v0, v1, v2, v3, v4, v5, v6, v7⟩ := it_cells hE4.out))
      | (at_builtin; have := hE2; go_must (refine append_str (w0 := w) (B := w.heap.size) rfl (.tmp 25) (.tmp 26) rfl _ oo.length oo rfl hown2' ex rfl (by omega) hb2 hb2.size ?_; intro a3 c3 w3 hown3 hb3 hsz3 hg3; have hE3 : Hid (_) := it_grown hE2.out hown2' hg3; obtain ⟨z0, z1, z2, z3, z4, z5, z6, z7⟩ := it_cells hE3.out)))
    go_ret
    have hlen : out.length = oo.length + ex.size + 1 + pc.length := by rw [HE.out]; simp only [List.length_append, List.length_singleton, kb_len]
    refine ⟨a6, c6, ?_, ?_, hb6⟩
    · rw [hlen]; rfl
    · rw [hlen, HE.out]; exact hown6

theorem it_small {w : World} {h : IH} {x : It.I} (hx : IsItem w h x) : Bl.Small x := by
  refine ⟨fun z hz => ?_, fun z hz => hx.row.2.2.1 z hz, ?_⟩
  · rw [← hx.key] at hz
    exact kb_small _ z hz
  · have := hx.fits
    rw [hx.pt] at this
    exact this.2.2.2
theorem bbytesof_any (h : IH) (x : It.I) (s : ByteArray) (w : World) (hx : IsItem w h x) (hM : It.may x = true) (hs : s.size ≤ 64) :
    Calls Tryz.prog 83 #[iv h, .string s] w (Made .u8 5 w (Bl.put1 (kb s) x)) := by
  obtain ⟨p1, p2, p3, p4⟩ := Bl.it_parts hM
  have hcell := hx.cell
  have hkey := hx.key
  have hdead := hx.dead
  have hrow := hx.row
  have hnil := hx.nil
  have hfits := hx.fits
  obtain ⟨key, dead, far, qa, qn, qc, ⟨g1, g2, g3, g4⟩⟩ := h
  obtain ⟨xk, xd, xf, xb, xp⟩ := x
  simp only at p1 p2 p3 p4 hcell hkey hdead hrow hnil hfits
  subst hkey; subst hdead
  simp only [Prod.mk.injEq] at hcell
  obtain ⟨rfl, _, rfl⟩ := hcell
  rw [kb_len] at p2
  have hA := (Bl.alike_le (kb s) (kb key)).2
  rw [kb_len] at hA
  have hext := kb_extract key (Bl.alike (kb s) (kb key))
  have hexs : (key.extract (Bl.alike (kb s) (kb key)) key.size).size = key.size - Bl.alike (kb s) (kb key) := by
    rw [← kb_len, hext, List.length_drop, kb_len]
  have hl1 := Va.one_len10 (u := Bl.alike (kb s) (kb key)) (by omega)
  have hl2 := Va.one_len10 (u := key.size - Bl.alike (kb s) (kb key)) (by omega)
  have hq1 := Va.one_pos (Bl.alike (kb s) (kb key))
  refine bbytesof_walk key s _ dead xf qa qn qc g1 g2 g3 g4 (Bl.alike (kb s) (kb key)) w _ (Va.one (Bl.alike (kb s) (kb key)) ++ Va.one (key.size - Bl.alike (kb s) (kb key))) (Ce.put (xf, xb, g1, g2, g3, g4)) p2 hA rfl (by rw [hexs]; omega) (Ce.put_small hrow.2.2.1) (by rw [List.length_append]; omega) (by rw [List.length_append]; omega) (by have := Ce.put_len p3; omega) (fun W => palike_any s key W (by omega) (by omega)) ?_ ?_ ?_
  · intro W q hr
    have := put_any (some q) 2 2 _ W (by omega) hr
    rw [hexs] at this
    simpa [Va.put] using this
  · intro _ W hW
    refine (cputC xf qa qn qc xb (g1, g2, g3, g4) W (hrow.below hW (Nat.le_refl _)) hnil hfits).mono ?_
    rintro e w' (⟨_, a', c', h⟩ | ⟨h, _⟩)
    · exact ⟨a', c', h⟩
    · rw [p3] at h; cases h
  · have : Bl.put1 (kb s) (kb key, dead, xf, xb, g1, g2, g3, g4) = Va.one (Bl.alike (kb s) (kb key)) ++ Va.one (key.size - Bl.alike (kb s) (kb key)) ++ kb (key.extract (Bl.alike (kb s) (kb key)) key.size) ++ (if dead = true then [1] else [0] ++ Ce.put (xf, xb, g1, g2, g3, g4)) := by
      rw [hext]
      unfold Bl.put1 Bl.tail1
      simp only [kb_len, List.append_assoc, List.singleton_append]
    exact this
/-- bytes of the call's own are told, with a code -/
def BMade (w : World) (R : Nat × List Nat) (e : Ending) (w' : World) : Prop :=
  ∃ a c, e = .returned (.tuple #[.slice a R.2.length c, .int .i64 (R.1 : Nat)]) ∧ w'.ownsRow w.heap.size 5 1 (.slice a R.2.length c) R.2.length (kcells .u8 R.2) ∧ Below w.heap.size w w'
theorem bmade_no {w W : World} (hb : Below w.heap.size w W) : BMade w (1, []) (.returned (.tuple #[.slice none 0 0, .int .i64 1])) W := ⟨none, 0, rfl, ⟨rfl, .inl ⟨rfl, rfl⟩⟩, hb⟩

set_option maxRecDepth 100000 in
set_option maxHeartbeats 4000000 in
theorem bput_own (a : Option Addr) (n c : Nat) (gs : List IH) (xs : List It.I) (w : World) (hn : n ≤ 1000) (hi : InI w a n c gs xs) :
    Calls Tryz.prog 55 #[.slice a n c] w (BMade w (Bl.putR xs)) := by
  have hlen : xs.length = n := hi.1.len
  have hso := tsorted_any a n c gs xs w hn hi
  by_cases h0 : n = 0
  · subst h0
    have e : Bl.putR xs = (1, []) := by unfold Bl.putR; rw [if_neg]; simp [Bl.may, hlen]
    rw [e]
    clear hso hi hlen e
    go_enter Tryz.func55, Tryz.ntmps55
    go_wp2
    go_ret2
    exact bmade_no (Below.refl _ _)
  have d0 : decide ((n : Int) < 1) = false := by simp; omega
  have d0' : ¬ ((n : Int) < 1) := by omega
  by_cases h1 : 256 < n
  · have e : Bl.putR xs = (1, []) := by unfold Bl.putR; rw [if_neg]; simp [Bl.may, hlen]; omega
    rw [e]
    have d1 : decide ((256 : Int) < (n : Int)) = true := by simp; omega
    clear hso hi hlen e
    go_enter Tryz.func55, Tryz.ntmps55
    go_wp2
    go_ret2
    exact bmade_no (Below.refl _ _)
  have d1 : decide ((256 : Int) < (n : Int)) = false := by simp; omega
  have d1' : ¬ ((256 : Int) < (n : Int)) := by omega
  cases hsr : It.sorted xs with
  | false =>
    have e : Bl.putR xs = (1, []) := by unfold Bl.putR; rw [if_neg]; simp [Bl.may, hsr]
    rw [e]
    rw [hsr] at hso
    clear hi hlen e hsr
    go_enter Tryz.func55, Tryz.ntmps55
    go_wp2_with (go_at_call 24; go_must (refine hso.mono ?_; rintro e w1 ⟨rfl, hbel1⟩))
    go_ret2
    exact bmade_no hbel1
  | true =>
    rw [hsr] at hso
    have hmay : Bl.may xs = true := by simp [Bl.may, hlen, hsr]; omega
    have e : Bl.putR xs = (0, Bl.put xs) := by unfold Bl.putR; rw [if_pos hmay]
    rw [e]
    clear e
    have hall : Hid (∀ i, i < n → It.may (xs.getD i It.zero) = true) := (fun i hin => by
      have hi' : i < xs.length := by rw [hlen]; exact hin
      rw [show xs.getD i It.zero = xs[i] by simp [hi']]; exact Bl.sorted_may hsr _ (List.getElem_mem hi') : ∀ i, i < n → It.may (xs.getD i It.zero) = true)
    obtain ⟨bb, off, rfl, hc⟩ := hi.1.at (by omega)
    have HC : Hid (∀ i, i < n → ∀ W, Below w.heap.size w W → ICells W bb (off + i * 8) (gs.getD i ihz)) := (fun i hin W hW => (hc i hin).below hW (Nat.le_refl _) : ∀ i, i < n → ∀ W, Below w.heap.size w W → ICells W bb (off + i * 8) (gs.getD i ihz))
    have HI : Hid (∀ i, i < n → ∀ W, Below w.heap.size w W → IsItem W (gs.getD i ihz) (xs.getD i It.zero)) := (fun i hin W hW => (hi.1.item hin).below hW (Nat.le_refl _) : ∀ i, i < n → ∀ W, Below w.heap.size w W → IsItem W (gs.getD i ihz) (xs.getD i It.zero))
    have H0 : Hid (Bl.put xs = Va.one n ++ Bl.putGo [] xs) := (by unfold Bl.put; rw [hlen] : Bl.put xs = Va.one n ++ Bl.putGo [] xs)
    have HN : Hid (∀ k, k < n → Bl.putGo [] (xs.take (k + 1)) = Bl.putGo [] (xs.take k) ++ Bl.put1 (Bl.prevKey xs k) (xs.getD k It.zero)) := (fun k hk => Bl.putGo_next (by rw [hlen]; exact hk) : ∀ k, k < n → Bl.putGo [] (xs.take (k + 1)) = Bl.putGo [] (xs.take k) ++ Bl.put1 (Bl.prevKey xs k) (xs.getD k It.zero))
    have HE : Hid (xs.take n = xs) := List.take_of_length_le (by rw [hlen]; omega)
    have hrn : ∀ W : World, Hid (Row .u64 (W.alloc (.cells #[.int .u64 (n : Nat)] 83)) (some ⟨W.heap.size, 0, none⟩) 1 [n]) := fun W => row_at .u64 W 83 (n : Int) n rfl rfl (by show n < 18446744073709551616; omega)
    have hone : ∀ (W : World) (q : Addr), Row .u64 W (some q) 1 [n] → Calls Tryz.prog 39 #[.slice (some q) 1 1] W (Made .u8 5 W (Va.one n)) := fun W q h => by
      have := put_any (some q) 1 1 [n] W (by omega) h
      simpa [Va.put] using this
    have hol := Va.one_len10 (u := n) (by omega)
    have jn : IntKind.u64.wrap (n : Int) = (n : Int) := by simp only [IntKind.wrap_u64]; omega
    generalize Va.one n = hd at *
    generalize Bl.put xs = out at *
    clear hc hi hmay hsr hlen
    go_enter Tryz.func55, Tryz.ntmps55
    go_wp2_with (first
      | (go_at_call 24; go_must (refine hso.mono ?_; rintro e w1 ⟨rfl, hbel1⟩))
      | (go_at_call 39; go_must (refine (hone _ _ (hrn w1).out).mono ?_; rintro e w2 ⟨a2, c2, rfl, hown2, hbel2⟩; have hbA := hbel1.alloc hbel1.size (.cells #[.int .u64 (n : Nat)] 83); have hb2 := hbA.trans (hbel2.mono hbA.size); have hown2' := hown2.mono (base' := w.heap.size) hbA.size)))
    clear hso hone hrn
    go_loopw [4, 5, 28] (fun v la i wr => ∃ (k : Nat) (a' : Option Addr) (m c' : Nat) (last : ByteArray), k ≤ n ∧ i = .int .i64 k ∧ v = .slice a' m c' ∧ la = .string last ∧ Hid (kb last = Bl.prevKey xs k) ∧ last.size ≤ 64 ∧ m ≤ 10 + 200 * k ∧ wr.ownsRow w.heap.size 5 1 (.slice a' m c') m (kcells .u8 (hd ++ Bl.putGo [] (xs.take k))) ∧ Below w.heap.size w wr) (fun _ _ i _ => n - (intOf i).toNat)
    case atStart => exact ⟨0, a2, _, c2, ⟨#[]⟩, by omega, rfl, rfl, rfl, (rfl : kb ⟨#[]⟩ = Bl.prevKey xs 0), by decide, by omega, by simpa [Bl.putGo] using hown2', hb2⟩
    case round =>
      obtain ⟨k, a', m, c', last, hk, rfl, rfl, rfl, HL, hls, hm, hown, hbel⟩ := hrel
      clear hown2 hown2' hb2 hbA hbel2 hbel1
      by_cases hlt : k < n
      · have C := HC.out k hlt _ hbel
        have hM := hall.out k hlt
        have HT : Hid (Bl.putGo [] (xs.take (k + 1)) = Bl.putGo [] (xs.take k) ++ Bl.put1 (kb last) (xs.getD k It.zero)) := (by rw [HN.out k hlt, HL.out] : Bl.putGo [] (xs.take (k + 1)) = Bl.putGo [] (xs.take k) ++ Bl.put1 (kb last) (xs.getD k It.zero))
        have hby := fun W (hW : Below w.heap.size w W) => bbytesof_any _ _ last W (HI.out k hlt W hW) hM hls
        have hpl := Bl.put1_len (last := kb last) hM
        have hps : ∀ b ∈ Bl.put1 (kb last) (xs.getD k It.zero), b < lim .u8 := Bl.put1_small (it_small (HI.out k hlt w (Below.refl _ _)))
        have hkl := (Bl.it_parts hM).2.1
        have hky := (HI.out k hlt w (Below.refl _ _)).key
        have HP : Hid (∀ K : ByteArray, kb K = (xs.getD k It.zero).1 → kb K = Bl.prevKey xs (k + 1)) := (fun K h => by rw [h]; simp [Bl.prevKey] : ∀ K : ByteArray, kb K = (xs.getD k It.zero).1 → kb K = Bl.prevKey xs (k + 1))
        generalize Bl.put1 (kb last) (xs.getD k It.zero) = P at *
        generalize gs.getD k ihz = q at *
        have HK2 : Hid (kb q.key = Bl.prevKey xs (k + 1)) := HP.out _ hky
        have hks : q.key.size ≤ 64 := by rw [← kb_len, hky]; exact hkl
        clear HP hkl hM HL hky
        obtain ⟨key, dead, far, qa, qn, qc, ⟨g1, g2, g3, g4⟩⟩ := q
        obtain ⟨y0, y1, y2, y3, y4, y5, y6, y7⟩ := C
        simp only at y0 y1 y2 y3 y4 y5 y6 y7 HK2 hks hby
        have i0 : (0 : Int) ≤ (k : Int) := by omega
        have i1 : (k : Int) < (n : Int) := by omega
        have i2 : IntKind.i64.wrap ((k : Int) + 1) = (k : Int) + 1 := by rw [IntKind.wrap_i64]; omega
        have hba := hbel.alloc hbel.size (.cells #[.string key, .bool dead, .bool far, .slice qa qn qc, .int .i64 g1, .int .i64 g2, .int .i64 g3, .int .u32 (g4 : Nat)] 40)
        have hE0 : Hid ((wr.alloc (.cells #[.string key, .bool dead, .bool far, .slice qa qn qc, .int .i64 g1, .int .i64 g2, .int .i64 g3, .int .u32 (g4 : Nat)] 40)).heap[wr.heap.size]? = some (.cells #[.string key, .bool dead, .bool far, .slice qa qn qc, .int .i64 g1, .int .i64 g2, .int .i64 g3, .int .u32 (g4 : Nat)] 40)) := heap_alloc_new wr _
        have howna := hown.alloc (.cells #[.string key, .bool dead, .bool far, .slice qa qn qc, .int .i64 g1, .int .i64 g2, .int .i64 g3, .int .u32 (g4 : Nat)] 40)
        clear HC HI hall HN H0 HE
        go_wp2_with (first
          | (go_at_call 83; go_must (refine (hby _ hba).mono ?_; rintro e w3 ⟨a3, c3, rfl, hown3, hbel3⟩; have hb3 := hba.trans (hbel3.mono hba.size); have hE3 : Hid (_) := obj_below hE0.out hbel3; have hr3 := row_of_owns hown3 hps (by omega); have hk3 := owns_below howna hbel3; obtain ⟨z0, z1, z2, z3, z4, z5, z6, z7⟩ := it_cells hE3.out))
          | (at_builtin; go_must (refine append_u8g (w0 := w) (B := w.heap.size) rfl (.tmp 32) (.tmp 35) rfl _ m _ rfl hk3 a3 P.length c3 P rfl hr3.1 hr3.2.1 (by omega) hb3 hb3.size ?_; intro a4 c4 w4 hown4 hb4 hsz4 hg4; have hE4 : Hid (_) := it_grown hE3.out hk3 hg4; obtain ⟨v0, v1, v2, v3, v4, v5, v6, v7⟩ := it_cells hE4.out)))
        go_roundw
        case rel => exact ⟨k + 1, a4, _, c4, key, by omega, by go_num, rfl, rfl, HK2, hks, by omega, by rw [HT.out, ← List.append_assoc]; exact hown4, hb4⟩
        case measure => simp [intOf]; omega
      · obtain rfl : k = n := by omega
        clear HC HI hall HN
        go_wp2
        go_ret2
        have hf : hd ++ Bl.putGo [] (xs.take k) = out := by rw [HE.out, H0.out]
        rw [hf] at hown
        have hl : out.length = m := by have := hown.1; rw [kcells_length] at this; omega
        refine ⟨a', c', ?_, ?_, hbel⟩
        · show _ = Ending.returned (.tuple #[.slice a' out.length c', .int .i64 0])
          rw [hl]; rfl
        · show wr.ownsRow _ _ 1 (.slice a' out.length c') out.length (kcells .u8 out)
          rw [hl]; exact hown

theorem bput_any (a : Option Addr) (n c : Nat) (gs : List IH) (xs : List It.I) (w : World) (hn : n ≤ 1000) (hi : InI w a n c gs xs) :
    Calls Tryz.prog 55 #[.slice a n c] w (BPRes w (Bl.putR xs)) := by
  refine (bput_own a n c gs xs w hn hi).mono ?_
  rintro e w' ⟨a', c', rfl, hown, hb⟩
  have hlen : xs.length = n := hi.1.len
  have hl : (Bl.putR xs).2.length ≤ 1000000 := by
    unfold Bl.putR
    split
    · rename_i h
      have h' := h
      simp only [Bl.may, Bool.and_eq_true, decide_eq_true_eq] at h'
      exact Bl.put_len (by omega) h
    · exact Nat.zero_le _
  have hr := row_of_owns hown (Bl.putR_small hi.1) (by omega)
  exact ⟨a', c', rfl, hr.1, hr.2.1, hr.2.2, hb⟩
end Go.Proofs.YtikieblokfjphaaGreat

/- What the program's getKey within a block does. -/
namespace Go.Proofs.YtikieblokfjphaaGreat
open Go.RowKit

theorem bconv_zero (w : World) (a : Option Addr) (c : Nat) : (convert 22 9 (.slice a 0 c)).run Tryz.prog w = .ok (.string ⟨#[]⟩) w := by
  rw [run_convert_bytes_string w _ _ 5 _ _ _ Tryz.underlying22 Tryz.underlying5 Tryz.underlying9]
  cases a <;> simp [Conv.bytesToString, loadCells] <;> rfl
/-- what getKey tells -/
def BKRes (w : World) (o : Option (List Nat × Nat)) (e : Ending) (w' : World) : Prop :=
  (o = none ∧ ∃ z : Nat, 0 < z ∧ e = .returned (.tuple #[.string ⟨#[]⟩, .int .i64 0, .int .i64 (z : Nat)]) ∧ Below w.heap.size w w') ∨
  (∃ (K : ByteArray) (p : Nat), o = some (kb K, p) ∧ e = .returned (.tuple #[.string K, .int .i64 (p : Nat), .int .i64 0]) ∧ Below w.heap.size w w')
theorem bk_none {w w' : World} {o : Option (List Nat × Nat)} (h : o = none) (hb : Below w.heap.size w w') : BKRes w o (.returned (.tuple #[.string ⟨#[]⟩, .int .i64 0, .int .i64 2])) w' := .inl ⟨h, 2, by decide, rfl, hb⟩

set_option maxRecDepth 100000 in
set_option maxHeartbeats 4000000 in
theorem bgetkey_any (a : Option Addr) (n c : Nat) (bs : List Nat) (s : ByteArray) (w : World) (hn : n ≤ 100000) (hlc : n ≤ c) (hsh : Shape a n c) (hr : Row .u8 w a n bs) (hs : s.size ≤ 64) :
    Calls Tryz.prog 87 #[.slice a n c, .string s] w (BKRes w (Bl.pkey (kb s) bs)) := by
  have hlen : Hid (bs.length = n) := hr.1
  have hall := all_any a n c bs 2 w (by omega) hn hsh hr
  have hok := Po.all_ok bs 2
  rw [hlen.out] at hok
  rw [Va.all_two] at hall hok
  obtain ⟨G, hG⟩ : ∃ G, G = Bl.pkey (kb s) bs := ⟨_, rfl⟩
  rw [← hG]
  have HG : Hid (G = if (Va.get bs).2 = 0 ∨ (Va.get (bs.drop (Va.get bs).2)).2 = 0 ∨ s.size < (Va.get bs).1 ∨ 64 < (Va.get bs).1 + (Va.get (bs.drop (Va.get bs).2)).1 ∨ n < (Va.get bs).2 + (Va.get (bs.drop (Va.get bs).2)).2 + (Va.get (bs.drop (Va.get bs).2)).1 then none
      else if Bl.alike (kb s) ((kb s).take (Va.get bs).1 ++ (bs.drop ((Va.get bs).2 + (Va.get (bs.drop (Va.get bs).2)).2)).take (Va.get (bs.drop (Va.get bs).2)).1) = (Va.get bs).1 then some ((kb s).take (Va.get bs).1 ++ (bs.drop ((Va.get bs).2 + (Va.get (bs.drop (Va.get bs).2)).2)).take (Va.get (bs.drop (Va.get bs).2)).1, (Va.get bs).2 + (Va.get (bs.drop (Va.get bs).2)).2 + (Va.get (bs.drop (Va.get bs).2)).1) else none) := by
    have : G = _ := hG
    unfold Bl.pkey at this
    simp only [kb_len, hlen.out] at this
    exact this
  clear hG
  have hu := Va.get_lt bs
  have hv := Va.get_lt (bs.drop (Va.get bs).2)
  generalize hg2 : Va.get (bs.drop (Va.get bs).2) = R2 at *
  clear hg2
  generalize Va.get bs = R1 at *
  obtain ⟨u, k⟩ := R1
  obtain ⟨v, m⟩ := R2
  simp only at hall HG hok hu hv
  by_cases hkm : k = 0 ∨ m = 0
  · obtain rfl : G = none := by rw [HG.out, if_pos (by omega)]
    obtain ⟨p, hp⟩ : ∃ p, (if k = 0 then (([] : List Nat), 0, 2) else if m = 0 then ([], k, 2) else ([u, v], k + m, 0)) = ([], p, 2) := by
      by_cases h : k = 0
      · exact ⟨0, by rw [if_pos h]⟩
      · exact ⟨k, by rw [if_neg h, if_pos (by omega)]⟩
    rw [hp] at hall
    clear hp HG hok
    go_enter Tryz.func87, Tryz.ntmps87
    go_wp2_with (go_at_call 104; go_must (refine hall.mono ?_; rintro e w1 ⟨a1, c1, rfl, hown1, hbel1⟩))
    go_ret3
    exact bk_none rfl hbel1
  have hk0 : ¬ k = 0 := fun h => hkm (.inl h)
  have hm0 : ¬ m = 0 := fun h => hkm (.inr h)
  rw [if_neg hk0, if_neg hm0] at hall hok
  obtain ⟨hH, -, -⟩ := hok
  simp only at hH
  obtain ⟨H, hHe⟩ : ∃ H, H = k + m := ⟨_, rfl⟩
  rw [← hHe] at hall hH HG
  have hHp : 0 < H := by omega
  have hall2 : Calls Tryz.prog 104 #[.slice a n c, .int .i64 2] w fun e w' => ∃ a1 c1, e = .returned (.tuple #[.slice a1 2 c1, .int .i64 (H : Nat), .int .i64 0]) ∧ w'.ownsRow w.heap.size 83 1 (.slice a1 2 c1) 2 (kcells .u64 [u, v]) ∧ Below w.heap.size w w' := hall
  clear hall
  obtain ⟨b, off, rfl, -⟩ := hr.at (by omega)
  have hsm : ∀ x ∈ [u, v], x < lim .u64 := by
    intro x hx
    simp only [List.mem_cons, List.not_mem_nil, or_false] at hx
    show x < 18446744073709551616
    omega
  have HG2 : Hid (G = if s.size < u ∨ 64 < u + v ∨ n < H + v then none else if Bl.alike (kb s) ((kb s).take u ++ (bs.drop H).take v) = u then some ((kb s).take u ++ (bs.drop H).take v, H + v) else none) := (by
    rw [HG.out]
    by_cases hc : s.size < u ∨ 64 < u + v ∨ n < H + v
    · rw [if_pos hc, if_pos (.inr (.inr hc))]
    · rw [if_neg hc, if_neg (by omega)] : G = if s.size < u ∨ 64 < u + v ∨ n < H + v then none else if Bl.alike (kb s) ((kb s).take u ++ (bs.drop H).take v) = u then some ((kb s).take u ++ (bs.drop H).take v, H + v) else none)
  clear HG hHe hkm hk0 hm0
  have jl : IntKind.u64.wrap (s.size : Int) = (s.size : Int) := by simp only [IntKind.wrap_u64]; omega
  have o1 : IntKind.i64.wrap 1 = 1 := by decide
  by_cases h1 : s.size < u
  · obtain rfl : G = none := by rw [HG2.out, if_pos (.inl h1)]
    have d1 : decide ((s.size : Int) < (u : Int)) = true := by simp; omega
    clear HG2
    go_enter Tryz.func87, Tryz.ntmps87
    go_wp2_with (go_at_call 104; go_must (refine hall2.mono ?_; rintro e w1 ⟨a1, c1, rfl, hown1, hbel1⟩; have hr1 := (row_of_owns hown1 hsm (by omega)).1; obtain ⟨b1, off1, rfl, hc1⟩ := hr1.at (by omega); have t0 := hc1 0 (by omega); have t1 := hc1 1 (by omega); simp only [List.getD_cons_zero, List.getD_cons_succ, Nat.add_zero] at t0 t1))
    go_quiet (fail)
    go_wp2
    go_ret3
    exact bk_none rfl (hbel1.trans (below_drewN _ _ _))
  have d1 : decide ((s.size : Int) < (u : Int)) = false := by simp; omega
  have d1' : ¬ ((s.size : Int) < (u : Int)) := by omega
  obtain ⟨D, hD⟩ : ∃ D : Nat, D = 64 - u := ⟨_, rfl⟩
  have jd : IntKind.u64.wrap (64 - (u : Int)) = (D : Int) := by simp only [IntKind.wrap_u64]; omega
  by_cases h2 : D < v
  · obtain rfl : G = none := by rw [HG2.out, if_pos (by omega)]
    have d2 : decide ((D : Int) < (v : Int)) = true := by simp; omega
    clear HG2 hD
    go_enter Tryz.func87, Tryz.ntmps87
    go_wp2_with (go_at_call 104; go_must (refine hall2.mono ?_; rintro e w1 ⟨a1, c1, rfl, hown1, hbel1⟩; have hr1 := (row_of_owns hown1 hsm (by omega)).1; obtain ⟨b1, off1, rfl, hc1⟩ := hr1.at (by omega); have t0 := hc1 0 (by omega); have t1 := hc1 1 (by omega); simp only [List.getD_cons_zero, List.getD_cons_succ, Nat.add_zero] at t0 t1))
    go_quiet (fail)
    go_wp2
    go_ret3
    exact bk_none rfl (hbel1.trans (below_drewN _ _ _))
  have d2 : decide ((D : Int) < (v : Int)) = false := by simp; omega
  have d2' : ¬ ((D : Int) < (v : Int)) := by omega
  obtain ⟨Dn, hDn⟩ : ∃ Dn : Nat, Dn = n - H := ⟨_, rfl⟩
  have je : IntKind.i64.wrap ((n : Int) - (H : Int)) = (Dn : Int) := by rw [IntKind.wrap_i64]; omega
  have jf : IntKind.u64.wrap (Dn : Int) = (Dn : Int) := by simp only [IntKind.wrap_u64]; omega
  by_cases h3 : Dn < v
  · obtain rfl : G = none := by rw [HG2.out, if_pos (by omega)]
    have d3 : decide ((Dn : Int) < (v : Int)) = true := by simp; omega
    clear HG2 hD hDn
    go_enter Tryz.func87, Tryz.ntmps87
    go_wp2_with (go_at_call 104; go_must (refine hall2.mono ?_; rintro e w1 ⟨a1, c1, rfl, hown1, hbel1⟩; have hr1 := (row_of_owns hown1 hsm (by omega)).1; obtain ⟨b1, off1, rfl, hc1⟩ := hr1.at (by omega); have t0 := hc1 0 (by omega); have t1 := hc1 1 (by omega); simp only [List.getD_cons_zero, List.getD_cons_succ, Nat.add_zero] at t0 t1))
    go_quiet (fail)
    go_wp2
    go_ret3
    exact bk_none rfl (hbel1.trans (below_drewN _ _ _))
  have d3 : decide ((Dn : Int) < (v : Int)) = false := by simp; omega
  have d3' : ¬ ((Dn : Int) < (v : Int)) := by omega
  have HG3 : Hid (G = if Bl.alike (kb s) ((kb s).take u ++ (bs.drop H).take v) = u then some ((kb s).take u ++ (bs.drop H).take v, H + v) else none) := (by rw [HG2.out, if_neg (by omega)] : G = if Bl.alike (kb s) ((kb s).take u ++ (bs.drop H).take v) = u then some ((kb s).take u ++ (bs.drop H).take v, H + v) else none)
  have hvr : Row .u8 w (some ⟨b, off + H, none⟩) v ((bs.drop H).take v) := (hr.drop H (by omega)).take v (by omega)
  have hvl : Hid (((bs.drop H).take v).length = v) := hvr.1
  have hu64 : u ≤ 64 := by omega
  have hv64 : v ≤ 64 := by omega
  have hHn : H + v ≤ n := by omega
  clear HG2 hD hDn h3 h2 hr
  rw [← kb_take] at HG3
  generalize (bs.drop H).take v = kv at *
  obtain ⟨E, hE⟩ : ∃ E : Nat, E = H + v := ⟨_, rfl⟩
  rw [← hE] at HG3
  have j3 : IntKind.i64.wrap (v : Int) = (v : Int) := by rw [IntKind.wrap_i64]; omega
  have j4 : IntKind.i64.wrap ((H : Int) + (v : Int)) = (E : Int) := by rw [IntKind.wrap_i64]; omega
  have j5 : IntKind.i64.wrap (u : Int) = (u : Int) := by rw [IntKind.wrap_i64]; omega
  have z1 : E - H = v := by omega
  have k1 : (0 : Int) ≤ (H : Int) := by omega
  have k2 : (H : Int) ≤ (E : Int) := by omega
  have k3 : (E : Int) ≤ (c : Int) := by omega
  have k4 : (0 : Int) ≤ (u : Int) := by omega
  have k5 : (u : Int) ≤ (s.size : Int) := by omega
  obtain ⟨pre, hpre⟩ : ∃ pre, pre = s.extract 0 u := ⟨_, rfl⟩
  have hps : pre.size ≤ 64 := by rw [hpre, ← kb_len, kb_take, List.length_take]; omega
  rw [← hpre] at HG3
  have hpre' : s.extract 0 u = pre := hpre.symm
  have hks : (bstr kv).size ≤ 64 := by rw [← kb_len, kb_bstr hvr.2.2.1, hvl.out]; exact hv64
  have hKz : (pre ++ bstr kv).size ≤ 1000 := by rw [ByteArray.size_append]; omega
  have hal := fun W => palike_any s (pre ++ bstr kv) W (by omega) hKz
  have hkK : Hid (kb (pre ++ bstr kv) = kb pre ++ kv) := (by rw [kb_app, kb_bstr hvr.2.2.1] : kb (pre ++ bstr kv) = kb pre ++ kv)
  rw [hkK.out] at hal
  have HK : Hid (∀ K, K = pre ++ bstr kv → kb K = kb pre ++ kv) := (fun K h => by rw [h, hkK.out] : ∀ K, K = pre ++ bstr kv → kb K = kb pre ++ kv)
  have HE : Hid (E = H + v) := hE
  have Hr : Hid (Row .u8 w (some ⟨b, off + H, none⟩) v kv) := hvr
  clear hE hpre hkK hvr hKz
  generalize Bl.alike (kb s) (kb pre ++ kv) = A at *
  by_cases hcn : c = H
  · subst hcn
    obtain rfl : v = 0 := by have := HE.out; omega
    obtain rfl : E = c := by have := HE.out; omega
    have hkv : kv = [] := List.length_eq_zero_iff.mp hvl.out
    by_cases hAu : A = u
    · subst hAu
      have dA : ((A : Int) == (A : Int)) = true := by simp
      have HG4 : Hid (G = some (kb pre ++ kv, E)) := (by rw [HG3.out, if_pos rfl] : G = some (kb pre ++ kv, E))
      clear HG3
      subst kv
      rw [show bstr [] = ⟨#[]⟩ from rfl] at hal HK
      go_enter Tryz.func87, Tryz.ntmps87
      go_wp2_with (go_at_call 104; go_must (refine hall2.mono ?_; rintro e w1 ⟨a1, c1, rfl, hown1, hbel1⟩; have hr1 := (row_of_owns hown1 hsm (by omega)).1; obtain ⟨b1, off1, rfl, hc1⟩ := hr1.at (by omega); have t0 := hc1 0 (by omega); have t1 := hc1 1 (by omega); simp only [List.getD_cons_zero, List.getD_cons_succ, Nat.add_zero] at t0 t1))
      go_quiet (fail)
      have hcv := fun W a c => bconv_zero W a c
      go_wp2_with fail
      go_quiet (fail)
      clear hcv
      go_wp2_with (go_at_call 101; go_must (refine (hal _).mono ?_; rintro e w2 ⟨rfl, hbel2⟩))
      go_ret3
      have hb2 := (hbel1.trans (below_drewN _ _ _)).trans (hbel2.mono hbel1.size)
      exact .inr ⟨_, _, by rw [HG4.out, HK.out _ rfl], rfl, hb2⟩
    · have dA : ((A : Int) == (u : Int)) = false := by simp; omega
      have HG4 : Hid (G = none) := (by rw [HG3.out, if_neg hAu] : G = none)
      clear HG3
      subst kv
      rw [show bstr [] = ⟨#[]⟩ from rfl] at hal HK
      go_enter Tryz.func87, Tryz.ntmps87
      go_wp2_with (go_at_call 104; go_must (refine hall2.mono ?_; rintro e w1 ⟨a1, c1, rfl, hown1, hbel1⟩; have hr1 := (row_of_owns hown1 hsm (by omega)).1; obtain ⟨b1, off1, rfl, hc1⟩ := hr1.at (by omega); have t0 := hc1 0 (by omega); have t1 := hc1 1 (by omega); simp only [List.getD_cons_zero, List.getD_cons_succ, Nat.add_zero] at t0 t1))
      go_quiet (fail)
      have hcv := fun W a c => bconv_zero W a c
      go_wp2_with fail
      go_quiet (fail)
      clear hcv
      go_wp2_with (go_at_call 101; go_must (refine (hal _).mono ?_; rintro e w2 ⟨rfl, hbel2⟩))
      go_ret3
      have hb2 := (hbel1.trans (below_drewN _ _ _)).trans (hbel2.mono hbel1.size)
      exact bk_none HG4.out hb2
  · by_cases hAu : A = u
    · subst hAu
      have dA : ((A : Int) == (A : Int)) = true := by simp
      have HG4 : Hid (G = some (kb pre ++ kv, E)) := (by rw [HG3.out, if_pos rfl] : G = some (kb pre ++ kv, E))
      clear HG3
      go_enter Tryz.func87, Tryz.ntmps87
      go_wp2_with (go_at_call 104; go_must (refine hall2.mono ?_; rintro e w1 ⟨a1, c1, rfl, hown1, hbel1⟩; have hr1 := (row_of_owns hown1 hsm (by omega)).1; obtain ⟨b1, off1, rfl, hc1⟩ := hr1.at (by omega); have t0 := hc1 0 (by omega); have t1 := hc1 1 (by omega); simp only [List.getD_cons_zero, List.getD_cons_succ, Nat.add_zero] at t0 t1))
      go_quiet (fail)
      have hcv := fun q => conv_row (cap := c - H) ((Hr.out.below hbel1 (Nat.le_refl _)).below (below_drewN w1.heap.size w1 q) (Nat.le_refl _))
      go_wp2_with fail
      go_quiet (fail)
      clear hcv
      go_wp2_with (go_at_call 101; go_must (refine (hal _).mono ?_; rintro e w2 ⟨rfl, hbel2⟩))
      go_ret3
      have hb2 := (hbel1.trans (below_drewN _ _ _)).trans (hbel2.mono hbel1.size)
      exact .inr ⟨_, _, by rw [HG4.out, HK.out _ rfl], rfl, hb2⟩
    · have dA : ((A : Int) == (u : Int)) = false := by simp; omega
      have HG4 : Hid (G = none) := (by rw [HG3.out, if_neg hAu] : G = none)
      clear HG3
      go_enter Tryz.func87, Tryz.ntmps87
      go_wp2_with (go_at_call 104; go_must (refine hall2.mono ?_; rintro e w1 ⟨a1, c1, rfl, hown1, hbel1⟩; have hr1 := (row_of_owns hown1 hsm (by omega)).1; obtain ⟨b1, off1, rfl, hc1⟩ := hr1.at (by omega); have t0 := hc1 0 (by omega); have t1 := hc1 1 (by omega); simp only [List.getD_cons_zero, List.getD_cons_succ, Nat.add_zero] at t0 t1))
      go_quiet (fail)
      have hcv := fun q => conv_row (cap := c - H) ((Hr.out.below hbel1 (Nat.le_refl _)).below (below_drewN w1.heap.size w1 q) (Nat.le_refl _))
      go_wp2_with fail
      go_quiet (fail)
      clear hcv
      go_wp2_with (go_at_call 101; go_must (refine (hal _).mono ?_; rintro e w2 ⟨rfl, hbel2⟩))
      go_ret3
      have hb2 := (hbel1.trans (below_drewN _ _ _)).trans (hbel2.mono hbel1.size)
      exact bk_none HG4.out hb2
end Go.Proofs.YtikieblokfjphaaGreat
