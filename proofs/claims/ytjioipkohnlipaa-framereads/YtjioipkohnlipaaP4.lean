/- What the program's First does. -/
import Derived.Test.YtjioipkohnlipaaP2
import Derived.Test.YtjioipkohnlipaaP3
import Derived.BigQuiet
import Derived.Deep.QuietTactic
namespace Go.Proofs.Ytjioipkohnlipaa
open Go.RowKit

theorem frozen_new (w : World) (cs : Array Value) (e : TypeId) (i : Nat) : (w.alloc (.cells cs e)).frozen? ⟨w.heap.size, i, none⟩ = false := by
  have : (w.alloc (.cells cs e)).heap[w.heap.size]? = some (.cells cs e) := heap_alloc_new w _
  simp only [World.frozen?, this]
  simp

set_option maxRecDepth 100000 in
set_option maxHeartbeats 1000000 in
theorem first_any (a : Option Addr) (len cap : Nat) (bs : List Nat) (w : World) (hcap : len ≤ cap) (hbig : len ≤ 100000) (hr : Row .u8 w a len bs) :
    Calls Try.prog 16 #[.slice a len cap] w (FirstRes w (Fr.first bs)) := by
  have hlen : Hid (bs.length = len) := hr.1
  have hs8 := hr.2.2.1
  obtain ⟨R, hR⟩ : ∃ R, R = Fr.first bs := ⟨_, rfl⟩
  rw [← hR]
  have HR : Hid (R = Fr.first bs) := hR
  clear hR
  have hb0 : Below w.heap.size w (w.alloc (.cells #[.int .i64 0, .slice none 0 0] 31)) := (Below.refl _ _).alloc (Nat.le_refl _) _
  have hrow0 := hr.below hb0 (Nat.le_refl _)
  have hbs := bodysize_any a len cap bs _ hrow0
  by_cases hbad : (Fr.bsz bs).2 = 0
  · obtain ⟨u, hu, hb, hget, htake, hol, hgap⟩ := Fr.bsz_ok hs8 hbad
    rw [hb] at hbs
    have hfn := Fr.first_num hu hget hgap
    have hput : Hid (_) := Fr.put_iff (u := u) (o := (Va.one u).length) hs8 htake
    have hhd := fun W => head_in u W hu
    have hsz := fun W => size_in u W hu
    have ho3 := Fr.one3 hu
    have ho1 := Va.one_pos u
    have Hsz : Hid (Fr.size u = (Va.one u).length + 1 + u + 4) := (rfl : Fr.size u = (Va.one u).length + 1 + u + 4)
    rw [hlen.out] at hol
    rw [← HR.out, hlen.out, Hsz.out] at hfn
    rw [Hsz.out] at hsz
    have Hfn : Hid (_) := hfn
    clear hfn Hsz HR hget htake hgap hbad hb
    generalize (Va.one u).length = o at *
    by_cases hoe : o = len
    · have H : Hid (R = ((0, []), 0, 5)) := (by rw [Hfn.out, if_pos hoe] : R = ((0, []), 0, 5))
      clear Hfn hput
      go_enter Try.func16, Try.ntmps16
      go_wp2_with (first
        | (go_at_call 29; refine hbs.mono ?_; rintro e w' ⟨rfl, rfl⟩)
        | (go_at_call 10; refine (hhd _).mono ?_; rintro e w' ⟨rfl, rfl⟩)
        | (go_at_call 9; refine (hsz _).mono ?_; rintro e w' ⟨rfl, rfl⟩))
      exact bodyPost_ret (v := .tuple #[.agg #[.int .i64 0, .slice none 0 0], .int .i64 0, .int .i64 5]) (by simp [results, Try.results16, go_sem]) rfl ⟨none, 0, by rw [H.out]; rfl, by rw [H.out]; exact World.ownsRow_nil _ _ _ _, hb0⟩
    · obtain ⟨b, off, rfl, hc⟩ := hrow0.at (by omega)
      have hcell := hc o (by omega)
      have hx8 := getD_lt8 hs8 o
      obtain ⟨x, hx⟩ : ∃ x, x = bs.getD o 0 := ⟨_, rfl⟩
      rw [← hx] at hx8 hcell
      have Hx : Hid (x = bs.getD o 0) := hx
      clear hx hc
      have hkm := fun W => kmb_any x W
      by_cases hk : 1 ≤ x ∧ x ≤ 250
      · rw [show kmB x = true by unfold kmB; simp; omega] at hkm
        by_cases hsh : len < o + 1 + u + 4
        · have H : Hid (R = ((0, []), 0, 5)) := (by rw [Hfn.out, if_neg hoe, if_neg (by rw [← Hx.out]; omega), if_pos hsh] : R = ((0, []), 0, 5))
          clear Hfn hput
          go_enter Try.func16, Try.ntmps16
          go_wp2_with (first
            | (go_at_call 29; refine hbs.mono ?_; rintro e w' ⟨rfl, rfl⟩)
            | (go_at_call 10; refine (hhd _).mono ?_; rintro e w' ⟨rfl, rfl⟩)
            | (go_at_call 9; refine (hsz _).mono ?_; rintro e w' ⟨rfl, rfl⟩)
            | (go_at_call 30; refine (hkm _).mono ?_; rintro e w' ⟨rfl, rfl⟩))
          exact bodyPost_ret (v := .tuple #[.agg #[.int .i64 0, .slice none 0 0], .int .i64 0, .int .i64 5]) (by simp [results, Try.results16, go_sem]) rfl ⟨none, 0, by rw [H.out]; rfl, by rw [H.out]; exact World.ownsRow_nil _ _ _ _, hb0⟩
        · have hput2 := hput.out (by rw [hlen.out]; omega)
          rw [← Hx.out] at hput2
          have hrS := (hrow0.drop o (by omega)).take (u + 1) (by omega)
          have hr4 := (hrow0.drop (o + 1 + u) (by omega)).take 4 (by omega)
          have hof : ∀ n z c, z = u + 1 → Calls Try.prog 31 #[.slice (some ⟨b, off + o, none⟩) z c] ((w.alloc (.cells #[.int .i64 0, .slice none 0 0] 31)).drewN n) fun e w' => e = .returned (.int .u32 (Crc.more 0 ((bs.drop o).take (u + 1)) : Nat)) ∧ w' = (w.alloc (.cells #[.int .i64 0, .slice none 0 0] 31)).drewN n := fun n z c hz => by
            subst hz; exact of_any _ _ _ _ _ (hrS.below (below_drewN _ _ _) (Nat.le_refl _))
          have hsa : ∀ n z c q, z = 4 → q = off + (o + 1 + u) → Calls Try.prog 32 #[.slice (some ⟨b, q, none⟩) z c] ((w.alloc (.cells #[.int .i64 0, .slice none 0 0] 31)).drewN n) fun e w' => e = .returned (.int .u32 (Fr.val4 ((bs.drop (o + 1 + u)).take 4) : Nat)) ∧ w' = (w.alloc (.cells #[.int .i64 0, .slice none 0 0] 31)).drewN n := fun n z c q hz hq => by
            subst hz; subst hq; exact sumat_any _ _ _ _ (hr4.below (below_drewN _ _ _) (Nat.le_refl _))
          clear hrS hr4 hput
          generalize Crc.more 0 ((bs.drop o).take (u + 1)) = s1 at *
          generalize Fr.val4 ((bs.drop (o + 1 + u)).take 4) = s2 at *
          have Hput : Hid (_) := hput2
          clear hput2
          by_cases hse : s1 = s2
          · subst hse
            generalize hbody : (bs.drop (o + 1)).take u = body at *
            have Hb : Hid ((bs.drop (o + 1)).take u = body) := hbody
            have hbl : Hid (body.length = u) := (by rw [← hbody, List.length_take, List.length_drop, hlen.out]; omega : body.length = u)
            have hbs8 : ∀ y ∈ body, y < lim .u8 := by rw [← hbody]; exact take_small (drop_small hr.2.2.1 _) _
            have H : Hid (R = (((x : Int), body), o + 1 + u + 4, 0)) := (by rw [Hfn.out, if_neg hoe, if_neg (by rw [← Hx.out]; omega), if_neg hsh, if_pos (by rw [← Hx.out, Hput.out]), ← Hx.out] : R = (((x : Int), body), o + 1 + u + 4, 0))
            clear hbody Hfn Hput
            go_enter Try.func16, Try.ntmps16
            go_wp2_with (first
              | (go_at_call 29; refine hbs.mono ?_; rintro e w' ⟨rfl, rfl⟩)
              | (go_at_call 10; refine (hhd _).mono ?_; rintro e w' ⟨rfl, rfl⟩)
              | (go_at_call 9; refine (hsz _).mono ?_; rintro e w' ⟨rfl, rfl⟩)
              | (go_at_call 30; refine (hkm _).mono ?_; rintro e w' ⟨rfl, rfl⟩))
            go_quiet ((first
              | (go_at_call 31; exact Calls.quiet_of_same (hof _ _ _ (by omega)))
              | (go_at_call 32; exact Calls.quiet_of_same (hsa _ _ _ _ (by omega) (by omega)))))
            go_wp2
            have hbd := below_drewN (w.alloc (.cells #[.int .i64 0, .slice none 0 0] 31)).heap.size (w.alloc (.cells #[.int .i64 0, .slice none 0 0] 31)) nq
            have hb1 := hb0.trans (hbd.mono hb0.size)
            have hs1 : w.heap.size < ((w.alloc (.cells #[.int .i64 0, .slice none 0 0] 31)).drewN nq).heap.size := by simp
            obtain ⟨hN0, hN1⟩ := cell_two w (.int .i64 0) (.slice none 0 0) 31 rfl
            have hN0 := (hbd.cell (p := ⟨w.heap.size, 0, none⟩) (by simp)).trans hN0
            have hN1 := (hbd.cell (p := ⟨w.heap.size, 1, none⟩) (by simp)).trans hN1
            have hF0 := (hbd.frozen (p := ⟨w.heap.size, 0, none⟩) (by simp)).trans (frozen_new w _ 31 0)
            have hF1 := (hbd.frozen (p := ⟨w.heap.size, 1, none⟩) (by simp)).trans (frozen_new w _ 31 1)
            have hrB := (((hrow0.below hbd (Nat.le_refl _)).drop (o + 1) (by omega)).take u (by omega))
            rw [Hb.out] at hrB
            have hcell1 := (hbd.cell (p := ⟨b, off + o, none⟩) (cell_lt hcell)).trans hcell
            clear hbd hof hsa hkm hhd hsz hbs hrow0 hcell
            generalize (w.alloc (.cells #[.int .i64 0, .slice none 0 0] 31)).drewN nq = W1 at *
            have hcl : ∀ W z c q, Below W1.heap.size W1 W → z = u → q = off + (o + 1) → Calls Try.prog 33 #[.slice (some ⟨b, q, none⟩) z c] W (Made .u8 5 W body) := fun W z c q hW hz hq => by
              subst hz; subst hq; exact clone_any _ _ _ _ _ (by omega) (hrB.below hW (Nat.le_refl _))
            have i1 : (0 : Int) ≤ (o : Int) := by omega
            have i2 : (o : Int) < (len : Int) := by omega
            have i3 : (0 : Int) ≤ (o : Int) + 1 := by omega
            have i4 : (o : Int) + 1 ≤ (o : Int) + 1 + u := by omega
            have i5 : (o : Int) + 1 + u ≤ (cap : Int) := by omega
            have i6 : IntKind.i64.wrap ((o : Int) + 1 - 1) = (o : Int) := by rw [IntKind.wrap_i64]; omega
            have i7 : IntKind.i64.wrap (o : Int) = (o : Int) := by rw [IntKind.wrap_i64]; omega
            have i8 : ¬ (cap = o + 1) := by omega
            have i9 : IntKind.i64.wrap (x : Int) = (x : Int) := by rw [IntKind.wrap_i64]; omega
            have hne1 := World.new_ne W1 ⟨b, off + o, none⟩ hcell1
            go_region_held3 (fun w' => w'.cell? ⟨b, off + o, none⟩ = some (.int .u8 (x : Nat))) (first | go_keep | assumption)
              (first
                | ((go_at_call 33; refine (hcl _ _ _ _ ((Below.refl _ _).drew) ?_ ?_).mono ?_; omega; omega; rintro e w2 ⟨A, C, rfl, hown2, hbel2⟩; have hbel2' := below_of_drew hbel2; have hk0 := (hbel2'.cell (p := ⟨b, off + o, none⟩) (cell_lt hcell1)).trans hcell1; have hne2 := World.new_ne w2 ⟨b, off + o, none⟩ hk0))
                | ((go_at_call 33; refine (hcl _ _ _ _ (((Below.refl _ _).alloc (Nat.le_refl _) _).drew) ?_ ?_).mono ?_; omega; omega; rintro e w2 ⟨A, C, rfl, hown2, hbel2⟩; have hbel2b := below_of_drew hbel2; have hbel2' : Below W1.heap.size W1 w2 := (below_alloc _ _).trans (hbel2b.mono (by simp)); have hk0 := (hbel2'.cell (p := ⟨b, off + o, none⟩) (cell_lt hcell1)).trans hcell1; have hm0 := (hbel2b.cell (p := ⟨W1.heap.size, 0, none⟩) (by simp)).trans (cell_two W1 (.int .i64 0) (.slice none 0 0) 31 rfl).1; have hm1 := (hbel2b.cell (p := ⟨W1.heap.size, 1, none⟩) (by simp)).trans (cell_two W1 (.int .i64 0) (.slice none 0 0) 31 rfl).2; have hm2 := (hbel2b.frozen (p := ⟨W1.heap.size, 0, none⟩) (by simp)).trans (frozen_new W1 _ 31 0); have hm3 := (hbel2b.frozen (p := ⟨W1.heap.size, 1, none⟩) (by simp)).trans (frozen_new W1 _ 31 1))))
            · have hb : Below W1.heap.size W1 (w2.alloc (.cells #[.int .i64 (x : Nat), .slice A body.length C] 31)) := Below.alloc (show Below W1.heap.size W1 w2 from hbel2') hbel2'.size _
              obtain ⟨q0, q1⟩ := cell_two w2 (.int .i64 (x : Nat)) (.slice A body.length C) 31 rfl
              have hown3 : (w2.alloc (.cells #[.int .i64 (x : Nat), .slice A body.length C] 31)).ownsRow W1.heap.size 5 1 (.slice A body.length C) body.length (kcells .u8 body) := hown2.alloc _
              clear hown2 hbel2 hbel2' hk0 hne2 hcl
              generalize w2.alloc (.cells #[.int .i64 (x : Nat), .slice A body.length C] 31) = W3 at *
              generalize w2.heap.size = M at *
              have n0 := (hb.cell (p := ⟨w.heap.size, 0, none⟩) hs1).trans hN0
              have n1 := (hb.cell (p := ⟨w.heap.size, 1, none⟩) hs1).trans hN1
              have f0 := (hb.frozen (p := ⟨w.heap.size, 0, none⟩) hs1).trans hF0
              have f1 := (hb.frozen (p := ⟨w.heap.size, 1, none⟩) hs1).trans hF1
              have hB3 := hb1.trans (hb.mono hb1.size)
              clear hN0 hN1 hF0 hF1 hcell1 hne1 hrB
              go_wp2
              refine bodyPost_ret (v := .tuple #[.agg #[.int .i64 (x : Nat), .slice A body.length C], .int .i64 ((o + 1 + u + 4 : Nat) : Int), .int .i64 0]) (by simp [results, Try.results16, go_sem, n0, n1]) rfl ⟨A, C, ?_, ?_, (hB3.setCell (Nat.le_refl _) _).setCell (Nat.le_refl _) _⟩
              · rw [H.out]; rfl
              · rw [H.out]
                exact (ownsRow_setCell_below (ownsRow_setCell_below hown3 hs1 _) hs1 _).mono (by omega)
            · have hb : Below W1.heap.size W1 ((w2.setCell ⟨W1.heap.size, 0, none⟩ (.int .i64 (x : Nat))).setCell ⟨W1.heap.size, 1, none⟩ (.slice A body.length C)) := (hbel2'.setCell (Nat.le_refl _) _).setCell (Nat.le_refl _) _
              have q0 : ((w2.setCell ⟨W1.heap.size, 0, none⟩ (.int .i64 (x : Nat))).setCell ⟨W1.heap.size, 1, none⟩ (.slice A body.length C)).cell? ⟨W1.heap.size, 0, none⟩ = some (.int .i64 (x : Nat)) :=
                (World.cell?_setCell_other _ _ _ _ (by simp)).trans (World.cell?_setCell_same w2 _ _ hm0)
              have q1 : ((w2.setCell ⟨W1.heap.size, 0, none⟩ (.int .i64 (x : Nat))).setCell ⟨W1.heap.size, 1, none⟩ (.slice A body.length C)).cell? ⟨W1.heap.size, 1, none⟩ = some (.slice A body.length C) :=
                World.cell?_setCell_same _ _ _ (u := .slice none 0 0) ((World.cell?_setCell_other _ _ _ _ (by simp)).trans hm1)
              have hown3 : ((w2.setCell ⟨W1.heap.size, 0, none⟩ (.int .i64 (x : Nat))).setCell ⟨W1.heap.size, 1, none⟩ (.slice A body.length C)).ownsRow W1.heap.size 5 1 (.slice A body.length C) body.length (kcells .u8 body) :=
                (ownsRow_setCell_below (ownsRow_setCell_below hown2 (by simp) _) (by simp) _).mono (by simp)
              clear hown2 hbel2 hbel2' hbel2b hk0 hm0 hm1 hm2 hm3 hcl
              generalize (w2.setCell ⟨W1.heap.size, 0, none⟩ (.int .i64 (x : Nat))).setCell ⟨W1.heap.size, 1, none⟩ (.slice A body.length C) = W3 at *
              have n0 := (hb.cell (p := ⟨w.heap.size, 0, none⟩) hs1).trans hN0
              have n1 := (hb.cell (p := ⟨w.heap.size, 1, none⟩) hs1).trans hN1
              have f0 := (hb.frozen (p := ⟨w.heap.size, 0, none⟩) hs1).trans hF0
              have f1 := (hb.frozen (p := ⟨w.heap.size, 1, none⟩) hs1).trans hF1
              have hB3 := hb1.trans (hb.mono hb1.size)
              clear hN0 hN1 hF0 hF1 hcell1 hne1 hrB
              go_wp2
              refine bodyPost_ret (v := .tuple #[.agg #[.int .i64 (x : Nat), .slice A body.length C], .int .i64 ((o + 1 + u + 4 : Nat) : Int), .int .i64 0]) (by simp [results, Try.results16, go_sem, n0, n1]) rfl ⟨A, C, ?_, ?_, (hB3.setCell (Nat.le_refl _) _).setCell (Nat.le_refl _) _⟩
              · rw [H.out]; rfl
              · rw [H.out]
                exact (ownsRow_setCell_below (ownsRow_setCell_below hown3 hs1 _) hs1 _).mono (by omega)
          · have H : Hid (R = ((0, []), 0, 2)) := (by rw [Hfn.out, if_neg hoe, if_neg (by rw [← Hx.out]; omega), if_neg hsh, if_neg (by rw [← Hx.out, Hput.out]; exact hse)] : R = ((0, []), 0, 2))
            have hse' : ((s1 : Int) == (s2 : Int)) = false := by simp; omega
            clear Hfn Hput
            go_enter Try.func16, Try.ntmps16
            go_wp2_with (first
              | (go_at_call 29; refine hbs.mono ?_; rintro e w' ⟨rfl, rfl⟩)
              | (go_at_call 10; refine (hhd _).mono ?_; rintro e w' ⟨rfl, rfl⟩)
              | (go_at_call 9; refine (hsz _).mono ?_; rintro e w' ⟨rfl, rfl⟩)
              | (go_at_call 30; refine (hkm _).mono ?_; rintro e w' ⟨rfl, rfl⟩))
            go_quiet ((first
              | (go_at_call 31; exact Calls.quiet_of_same (hof _ _ _ (by omega)))
              | (go_at_call 32; exact Calls.quiet_of_same (hsa _ _ _ _ (by omega) (by omega)))))
            go_wp2
            exact bodyPost_ret (v := .tuple #[.agg #[.int .i64 0, .slice none 0 0], .int .i64 0, .int .i64 2]) (by simp [results, Try.results16, go_sem]) rfl ⟨none, 0, by rw [H.out]; rfl, by rw [H.out]; exact World.ownsRow_nil _ _ _ _, ((hb0.trans (below_drewN _ _ _)).setCell (Nat.le_refl _) _).setCell (Nat.le_refl _) _⟩
      · have H : Hid (R = ((0, []), 0, 2)) := (by rw [Hfn.out, if_neg hoe, if_pos (by rw [← Hx.out]; omega)] : R = ((0, []), 0, 2))
        rw [show kmB x = false by unfold kmB; simp; omega] at hkm
        clear Hfn hput
        go_enter Try.func16, Try.ntmps16
        go_wp2_with (first
          | (go_at_call 29; refine hbs.mono ?_; rintro e w' ⟨rfl, rfl⟩)
          | (go_at_call 10; refine (hhd _).mono ?_; rintro e w' ⟨rfl, rfl⟩)
          | (go_at_call 9; refine (hsz _).mono ?_; rintro e w' ⟨rfl, rfl⟩)
          | (go_at_call 30; refine (hkm _).mono ?_; rintro e w' ⟨rfl, rfl⟩))
        exact bodyPost_ret (v := .tuple #[.agg #[.int .i64 0, .slice none 0 0], .int .i64 0, .int .i64 2]) (by simp [results, Try.results16, go_sem]) rfl ⟨none, 0, by rw [H.out]; rfl, by rw [H.out]; exact World.ownsRow_nil _ _ _ _, hb0⟩
  · have H : Hid (R = ((0, []), 0, (Fr.bsz bs).2)) := (by rw [HR.out, Fr.first_bad hbad] : R = ((0, []), 0, (Fr.bsz bs).2))
    clear HR
    generalize (Fr.bsz bs).1 = n0 at *
    generalize (Fr.bsz bs).2 = c0 at *
    have hc0 : ((c0 : Int) == 0) = false := by simp; omega
    go_enter Try.func16, Try.ntmps16
    go_wp2_with (go_at_call 29; refine hbs.mono ?_; rintro e w' ⟨rfl, rfl⟩)
    exact bodyPost_ret (v := .tuple #[.agg #[.int .i64 0, .slice none 0 0], .int .i64 0, .int .i64 c0]) (by simp [results, Try.results16, go_sem]) rfl ⟨none, 0, by rw [H.out]; rfl, by rw [H.out]; exact World.ownsRow_nil _ _ _ _, hb0⟩
end Go.Proofs.Ytjioipkohnlipaa
