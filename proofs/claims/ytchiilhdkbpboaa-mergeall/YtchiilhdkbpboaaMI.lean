/- What the program's 'first of merged items' does. -/
import Derived.Test.YtchiilhdkbpboaaMH
namespace Go.Proofs.Ytchiilhdkbpboaa
open Go.RowKit

/-- what is told yet of what is left, behind m that were told -/
def Mg.fg (drop : Bool) (most : Int) (m : Nat) (ys : List Mg.Y) : List It.I := ((ys.map Prod.fst).filter fun x => !drop || !x.2.1).take (most.toNat - m)
theorem Mg.fg_nil (drop : Bool) (most : Int) (m : Nat) : Mg.fg drop most m [] = [] := by unfold Mg.fg; simp
theorem Mg.fg_full (drop : Bool) {most : Int} {m : Nat} (h : most ≤ (m : Int)) (ys : List Mg.Y) : Mg.fg drop most m ys = [] := by unfold Mg.fg; rw [show most.toNat - m = 0 by omega]; simp
theorem Mg.fg_take {drop : Bool} {most : Int} {m : Nat} (h : ¬ most ≤ (m : Int)) {y : Mg.Y} (hp : (!drop || !y.1.2.1) = true) (ys : List Mg.Y) : Mg.fg drop most m (y :: ys) = y.1 :: Mg.fg drop most (m + 1) ys := by
  unfold Mg.fg
  rw [List.map_cons, List.filter_cons, if_pos hp, show most.toNat - m = (most.toNat - (m + 1)) + 1 by omega, List.take_succ_cons]
theorem Mg.fg_skip {drop : Bool} {most : Int} {m : Nat} {y : Mg.Y} (hp : (!drop || !y.1.2.1) = false) (ys : List Mg.Y) : Mg.fg drop most m (y :: ys) = Mg.fg drop most m ys := by
  unfold Mg.fg
  rw [List.map_cons, List.filter_cons, if_neg (by rw [hp]; simp)]
theorem tall_some {w W : World} {R L : List It.I} {a : Option Addr} {m c : Nat} {hs : List IH} (hR : R = L) (hm : L.length = m) (hown : W.ownsRow w.heap.size 37 8 (.slice a m c) m (tcells ih hs)) (hh : ItHeld W w.heap.size hs L) (hsm : m ≤ 1000000000) (hb : Below w.heap.size w W) : TAllRes w R (.returned (.slice a m c)) W := by
  subst hR; subst hm
  obtain ⟨a', c', e', h1, h2⟩ := t_shape hown
  simp only [Value.slice.injEq] at e'
  obtain ⟨rfl, -, rfl⟩ := e'
  exact ⟨a, c, hs, rfl, ⟨⟨trow_of_owns ihE hown (by omega) hsm, hh.all⟩, h1, h2⟩, hb⟩
theorem tall_nil {w W : World} {R : List It.I} (hR : R = []) (hb : Below w.heap.size w W) : TAllRes w R (.returned (.slice none 0 0)) W := by
  subst hR
  exact ⟨none, 0, [], rfl, ⟨⟨TRow.nil _ _, ItAll.nil _⟩, (fun _ => ⟨rfl, rfl⟩), Nat.le_refl _⟩, hb⟩
/-- items small enough to be copied -/
def Small (x : It.I) : Prop := x.1.length ≤ 100000 ∧ x.2.2.2.1.length ≤ 100000
theorem drop_cons {α : Type} (d : α) {l : List α} {k : Nat} (hk : k < l.length) : l.drop k = l.getD k d :: l.drop (k + 1) := by
  rw [List.drop_eq_getElem_cons hk, List.getD_eq_getElem?_getD, List.getElem?_eq_getElem hk]
  rfl

set_option maxRecDepth 100000 in
set_option maxHeartbeats 4000000 in
theorem mfirst_any (w0 : World) (a : Option Addr) (n c : Nat) (os : List OH) (ys : List Mg.Y) (drop : Bool) (most : Int) (w : World) (hS : SO w0 w a n c os ys) (hw0 : Below w0.heap.size w0 w) (hn : n ≤ 100000000) (hsm : ∀ y ∈ ys, Small y.1) :
    Calls Try.prog 24 #[.slice a n c, .bool drop, .int .i64 most] w (TAllRes w (Mg.fo drop most ys)) := by
  obtain ⟨R, hR⟩ : ∃ R, R = Mg.fo drop most ys := ⟨_, rfl⟩
  rw [← hR]
  have HR : Hid (R = [] ++ Mg.fg drop most 0 (ys.drop 0)) := (hR : R = [] ++ Mg.fg drop most 0 (ys.drop 0))
  have HS : Hid (SO w0 w a n c os ys) := hS
  have Hsm : Hid (∀ y ∈ ys, Small y.1) := hsm
  have hll : Hid (ys.length = n) := hS.len
  clear hR hS hsm
  go_enter Try.func24, Try.ntmps24
  go_wp2_with fail
  go_loopw [7, 12] (fun fi i wr => ∃ (k m co : Nat) (ao : Option Addr) (hs : List IH) (done : List It.I), k ≤ n ∧ m ≤ k ∧ i = .int .i64 k ∧ fi = .slice ao m co ∧ Hid (R = done ++ Mg.fg drop most m (ys.drop k)) ∧ Hid (done.length = m) ∧ wr.ownsRow w.heap.size 37 8 (.slice ao m co) m (tcells ih hs) ∧ Hid (ItHeld wr w.heap.size hs done) ∧ Below w.heap.size w wr) (fun _ i _ => n - (intOf i).toNat)
  case atStart => exact ⟨0, 0, 0, none, [], [], by omega, by omega, rfl, rfl, HR, (rfl : ([] : List It.I).length = 0), ⟨rfl, .inl ⟨rfl, rfl⟩⟩, (ItHeld.nil _ _ : ItHeld _ _ [] []), Below.refl _ _⟩
  case round =>
    obtain ⟨k, m, co, ao, hs, done, hk, hmk, rfl, rfl, H, hdm, hown, hheld, hbel⟩ := hrel
    clear HR
    by_cases hlt : k < n
    · obtain ⟨bb, off, rfl, hc⟩ := HS.out.1.origins (by omega)
      have hk' : k < ys.length := by rw [hll.out]; exact hlt
      have C := (hc k hlt).below hbel (Nat.le_refl _)
      have HI := HS.out.2.1.2 k hk'
      have hmem : ys.getD k Mg.yz ∈ ys := by rw [List.getD_eq_getElem?_getD, List.getElem?_eq_getElem hk']; exact List.getElem_mem _
      have hsx := Hsm.out _ hmem
      rw [drop_cons Mg.yz hk'] at H
      have hcp := fun (W : World) (hW : Below w.heap.size w W) => mcopied_any (os.getD k ohz).h (ys.getD k Mg.yz).1 W ((HI.1.below hw0 (Nat.le_refl _)).below hW (Nat.le_refl _)) hsx.2 (by rw [← kb_len, HI.1.key]; exact hsx.1)
      have hdd := HI.1.dead
      generalize os.getD k ohz = q at *
      generalize ys.getD k Mg.yz = y at *
      obtain ⟨⟨key, dead, far, qa, qn, qc, ⟨p1, p2, p3, p4⟩⟩, fr⟩ := q
      obtain ⟨y0, y1, y2, y3, y4, y5, y6, y7, y8⟩ := C
      simp only at y0 y1 y2 y3 y4 y5 y6 y7 y8 hcp hdd
      have j0 : (0 : Int) ≤ (k : Int) := by omega
      have j1 : (k : Int) < (n : Int) := by omega
      have j2 : IntKind.i64.wrap ((k : Int) + 1) = (k : Int) + 1 := by rw [IntKind.wrap_i64]; omega
      have b2 := hbel.alloc hbel.size (.cells #[.string key, .bool dead, .bool far, .slice qa qn qc, .int .i64 p1, .int .i64 p2, .int .i64 p3, .int .u32 (p4 : Nat), .int .i64 (fr : Nat)] 68)
      have ow2 := hown.alloc (.cells #[.string key, .bool dead, .bool far, .slice qa qn qc, .int .i64 p1, .int .i64 p2, .int .i64 p3, .int .u32 (p4 : Nat), .int .i64 (fr : Nat)] 68)
      have hh2 : Hid (ItHeld (wr.alloc (.cells #[.string key, .bool dead, .bool far, .slice qa qn qc, .int .i64 p1, .int .i64 p2, .int .i64 p3, .int .u32 (p4 : Nat), .int .i64 (fr : Nat)] 68)) w.heap.size hs done) := (hheld.out.below (below_alloc _ _) : ItHeld (wr.alloc (.cells #[.string key, .bool dead, .bool far, .slice qa qn qc, .int .i64 p1, .int .i64 p2, .int .i64 p3, .int .u32 (p4 : Nat), .int .i64 (fr : Nat)] 68)) w.heap.size hs done)
      clear hmem hsx HI hc hk'
      by_cases hfull : most ≤ (m : Int)
      · have d1 : decide (most ≤ (m : Int)) = true := decide_eq_true hfull
        have HE : Hid (R = done) := (by rw [H.out, Mg.fg_full drop hfull, List.append_nil] : R = done)
        clear H hcp hdd
        go_wp2
        go_ret
        exact tall_some HE.out hdm.out ow2 hh2.out (by omega) b2
      · have d1 : decide (most ≤ (m : Int)) = false := decide_eq_false hfull
        by_cases hp : (!drop || !dead) = true
        · have HE : Hid (R = (done ++ [y.1]) ++ Mg.fg drop most (m + 1) (ys.drop (k + 1))) := (by rw [H.out, Mg.fg_take hfull (by rw [← hdd]; exact hp), List.append_assoc]; rfl : R = (done ++ [y.1]) ++ Mg.fg drop most (m + 1) (ys.drop (k + 1)))
          have hd3 : Hid ((done ++ [y.1]).length = m + 1) := (by rw [List.length_append, hdm.out]; rfl : (done ++ [y.1]).length = m + 1)
          clear H hdd
          have hcase : drop = false ∨ (drop = true ∧ dead = false) := by revert hp; cases drop <;> cases dead <;> simp
          clear hp
          rcases hcase with rfl | ⟨rfl, rfl⟩
          all_goals
            go_wp2_with (first
              | (go_at_call 28; go_must (refine (hcp _ b2).mono ?_; rintro e w3 ⟨q, rfl, o3, -, b3⟩; have ow3 := owns_below ow2 b3; have hh3 := hh2.out.below b3; have hb3 := b2.trans (b3.mono b2.size); have o4 : OwnIt w3 w.heap.size q y.1 := (⟨o3.1, owns_base o3.2 (by simp; exact Nat.le_trans hbel.size (Nat.le_succ _))⟩)))
              | (at_builtin; go_must (refine append_tg itemE ihE (w0 := w) (B := w.heap.size) rfl (.tmp 28) (.tmp 32) rfl _ m _ rfl (ow3.alloc _) _ 1 1 [q] rfl (lit_item w3 q rfl) (fun h => by cases h) (by omega) (hb3.alloc hb3.size _) (by simp; exact Nat.le_trans hb3.size (Nat.le_succ _)) ?_; intro a9 c9 w9 hg9 hc9 hn9 _ ho9 hb9 _)))
            have hh9 : Hid (ItHeld w9 w.heap.size (hs ++ [q]) (done ++ [y.1])) := (ItHeld.grown (ow3.alloc (.cells #[.string q.key, .bool q.dead, .bool q.far, .slice q.a q.n q.c, .int .i64 q.p.1, .int .i64 q.p.2.1, .int .i64 q.p.2.2.1, .int .u32 (q.p.2.2.2 : Nat)] 37)) (by decide) hg9 (ItHeld.snoc (hh3.below (below_alloc _ _)) (o4.below (below_alloc _ _))) : ItHeld w9 w.heap.size (hs ++ [q]) (done ++ [y.1]))
            go_roundw
            case rel => exact ⟨k + 1, m + 1, c9, a9, hs ++ [q], done ++ [y.1], by omega, by omega, by go_num, rfl, HE, hd3, ho9, hh9, hb9⟩
            case measure => simp [intOf]; omega
        · have hp' : (!drop || !dead) = false := by simpa using hp
          have HE : Hid (R = done ++ Mg.fg drop most m (ys.drop (k + 1))) := (by rw [H.out, Mg.fg_skip (by rw [← hdd]; exact hp')] : R = done ++ Mg.fg drop most m (ys.drop (k + 1)))
          have hcase : drop = true ∧ dead = true := by revert hp'; cases drop <;> cases dead <;> simp
          obtain ⟨rfl, rfl⟩ := hcase
          clear H hdd hp hp' hcp
          go_wp2
          go_roundw
          case rel => exact ⟨k + 1, m, co, ao, hs, done, by omega, by omega, by go_num, rfl, HE, hdm, ow2, hh2, b2⟩
          case measure => simp [intOf]; omega
    · obtain rfl : k = n := by omega
      have HE : Hid (R = done) := (by rw [H.out, List.drop_of_length_le (by rw [hll.out]; omega), Mg.fg_nil, List.append_nil] : R = done)
      clear H
      go_wp2
      go_ret
      exact tall_some HE.out hdm.out hown hheld.out (by omega) hbel
end Go.Proofs.Ytchiilhdkbpboaa
