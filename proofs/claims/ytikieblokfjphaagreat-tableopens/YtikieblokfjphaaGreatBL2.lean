/- What the reference's Put of a block does. -/
import Derived.Test.YtikieblokfjphaaGreatBL1
import Derived.Test.YtikieblokfjphaaGreatAS
import Derived.Deep.DeepCutAuto
namespace Go.Proofs.YtikieblokfjphaaGreat
open Go.RowKit

set_option maxRecDepth 100000 in
set_option maxHeartbeats 4000000 in
theorem brefput_any (a : Option Addr) (n c : Nat) (gs : List IH) (xs : List It.I) (w : World) (hi : ItRow w a n gs xs) (hmay : Bl.may xs = true) :
    Calls Tryz.prog 44 #[.slice a n c] w (Made .u8 5 w (Bl.put xs)) := by
  have hlen : xs.length = n := hi.len
  have hm' := hmay
  simp only [Bl.may, Bool.and_eq_true, decide_eq_true_eq] at hm'
  obtain ⟨⟨hn1, hn256⟩, hsrt⟩ := hm'
  rw [hlen] at hn1 hn256
  have hall : Hid (∀ i, i < n → It.may (xs.getD i It.zero) = true) := (fun i hin => by
    have hi' : i < xs.length := by rw [hlen]; exact hin
    rw [show xs.getD i It.zero = xs[i] by simp [hi']]; exact Bl.sorted_may hsrt _ (List.getElem_mem hi') : ∀ i, i < n → It.may (xs.getD i It.zero) = true)
  obtain ⟨bb, off, rfl, hc⟩ := hi.at (by omega)
  have HC : Hid (∀ i, i < n → ∀ W, Below w.heap.size w W → ICells W bb (off + i * 8) (gs.getD i ihz)) := (fun i hin W hW => (hc i hin).below hW (Nat.le_refl _) : ∀ i, i < n → ∀ W, Below w.heap.size w W → ICells W bb (off + i * 8) (gs.getD i ihz))
  have HI : Hid (∀ i, i < n → ∀ W, Below w.heap.size w W → IsItem W (gs.getD i ihz) (xs.getD i It.zero)) := (fun i hin W hW => (hi.item hin).below hW (Nat.le_refl _) : ∀ i, i < n → ∀ W, Below w.heap.size w W → IsItem W (gs.getD i ihz) (xs.getD i It.zero))
  have H0 : Hid (Bl.put xs = Va.one n ++ Bl.putGo [] xs) := (by unfold Bl.put; rw [hlen] : Bl.put xs = Va.one n ++ Bl.putGo [] xs)
  have HN : Hid (∀ k, k < n → Bl.putGo [] (xs.take (k + 1)) = Bl.putGo [] (xs.take k) ++ Bl.put1 (Bl.prevKey xs k) (xs.getD k It.zero)) := (fun k hk => Bl.putGo_next (by rw [hlen]; exact hk) : ∀ k, k < n → Bl.putGo [] (xs.take (k + 1)) = Bl.putGo [] (xs.take k) ++ Bl.put1 (Bl.prevKey xs k) (xs.getD k It.zero))
  have HE : Hid (xs.take n = xs) := List.take_of_length_le (by rw [hlen]; omega)
  have hone := one_any n n w (Nat.le_refl _) (by omega)
  have hol := Va.one_len10 (u := n) (by omega)
  have jn : IntKind.u64.wrap (n : Int) = (n : Int) := by simp only [IntKind.wrap_u64]; omega
  generalize Va.one n = hd at *
  generalize Bl.put xs = out at *
  clear hc hi hmay hsrt hlen
  go_enter Tryz.func44, Tryz.ntmps44
  go_wp2_with (go_at_call 48; go_must (refine hone.mono ?_; rintro e w0 ⟨a0, c0, rfl, hown0, hbel0⟩))
  go_loopw [3, 4] (fun v i wr => ∃ (k : Nat) (a' : Option Addr) (m c' : Nat), k ≤ n ∧ i = .int .i64 k ∧ v = .slice a' m c' ∧ m ≤ 10 + 200 * k ∧ wr.ownsRow w.heap.size 5 1 (.slice a' m c') m (kcells .u8 (hd ++ Bl.putGo [] (xs.take k))) ∧ Below w.heap.size w wr) (fun _ i _ => n - (intOf i).toNat)
  case atStart => exact ⟨0, a0, _, c0, by omega, rfl, rfl, by omega, by simpa [Bl.putGo] using hown0, hbel0⟩
  case round =>
    obtain ⟨k, a', m, c', hk, rfl, rfl, hm, hown, hbel⟩ := hrel
    clear hown0 hbel0
    by_cases hlt : k < n
    · have C := HC.out k hlt
      have hM := hall.out k hlt
      have I := HI.out k hlt w (Below.refl _ _)
      have HT : Hid (Bl.putGo [] (xs.take (k + 1)) = Bl.putGo [] (xs.take k) ++ Bl.put1 (Bl.prevKey xs k) (xs.getD k It.zero)) := HN.out k hlt
      generalize gs.getD k ihz = q at *
      generalize xs.getD k It.zero = X at *
      obtain ⟨p1, p2, p3, p4⟩ := Bl.it_parts hM
      have hcell := I.cell
      have hkey := I.key
      have hdead := I.dead
      have hrow := I.row
      have hnil := I.nil
      have hfits := I.fits
      obtain ⟨key, dead, far, qa, qn, qc, ⟨g1, g2, g3, g4⟩⟩ := q
      obtain ⟨xk, xd, xf, xb, xp⟩ := X
      simp only at p1 p2 p3 p4 hcell hkey hdead hrow hnil hfits
      subst hkey; subst hdead
      simp only [Prod.mk.injEq] at hcell
      obtain ⟨rfl, _, rfl⟩ := hcell
      rw [kb_len] at p2
      obtain ⟨A, hA⟩ : ∃ A, A = Bl.alike (Bl.prevKey xs k) (kb key) := ⟨_, rfl⟩
      have hAl : A ≤ key.size := by rw [hA, ← kb_len]; exact (Bl.alike_le _ _).2
      have HP : Hid (Bl.put1 (Bl.prevKey xs k) (kb key, dead, xf, xb, g1, g2, g3, g4) = Va.one A ++ (Va.one (key.size - A) ++ ((kb key).drop A ++ (if dead = true then [1] else 0 :: Ce.put (xf, xb, g1, g2, g3, g4))))) := (by unfold Bl.put1 Bl.tail1; simp only [← hA, kb_len] : Bl.put1 (Bl.prevKey xs k) (kb key, dead, xf, xb, g1, g2, g3, g4) = Va.one A ++ (Va.one (key.size - A) ++ ((kb key).drop A ++ (if dead = true then [1] else 0 :: Ce.put (xf, xb, g1, g2, g3, g4)))))
      have HA : Hid (A = Bl.alike (Bl.prevKey xs k) (kb key)) := hA
      have HC1 : Hid (∀ W, Below w.heap.size w W → ICells W bb (off + k * 8) ⟨key, dead, xf, qa, qn, qc, (g1, g2, g3, g4)⟩) := C
      have hrc := fun W (h : Below w.heap.size w W) => cerefput_any xf qa qn qc xb (g1, g2, g3, g4) W (hrow.below h (Nat.le_refl _)) hnil hfits p3
      simp only [cv] at hrc
      have hql := Ce.put_len p3
      have hpp := Ce.put_pos (xf, xb, g1, g2, g3, g4)
      have hqs : ∀ u ∈ Ce.put (xf, xb, g1, g2, g3, g4), u < lim .u8 := Ce.put_small hrow.2.2.1
      have hone1 := fun W => one_any A A W (Nat.le_refl _) (by omega)
      have hone2 := fun W => one_any (key.size - A) (key.size - A) W (Nat.le_refl _) (by omega)
      have ho1 : ∀ u ∈ Va.one A, u < lim .u8 := Va.one_small A
      have ho2 : ∀ u ∈ Va.one (key.size - A), u < lim .u8 := Va.one_small _
      have hl1 := Va.one_len10 (u := A) (by omega)
      have hl2 := Va.one_len10 (u := key.size - A) (by omega)
      have hex := kb_extract key A
      have hexs : (key.extract A key.size).size = key.size - A := by rw [← kb_len, hex, List.length_drop, kb_len]
      obtain ⟨R, hR⟩ : ∃ R : Nat, R = key.size - A := ⟨_, rfl⟩
      rw [← hR] at hone2 ho2 hl2 hexs HP
      have j1 : IntKind.u64.wrap (A : Int) = (A : Int) := by simp only [IntKind.wrap_u64]; omega
      have j2 : IntKind.i64.wrap ((key.size : Int) - (A : Int)) = (R : Int) := by rw [IntKind.wrap_i64]; omega
      have j3 : IntKind.u64.wrap (R : Int) = (R : Int) := by simp only [IntKind.wrap_u64]; omega
      have hAle : (A : Int) ≤ (key.size : Int) := by omega
      have hA0 : (0 : Int) ≤ (A : Int) := by omega
      have i0 : (0 : Int) ≤ (k : Int) := by omega
      have i1 : (k : Int) < (n : Int) := by omega
      have hRs : R ≤ 64 := by omega
      have HM : Hid (∀ i, i < n → It.may (xs.getD i It.zero) = true) := hall
      have HRe : Hid (R = key.size - A) := hR
      clear hA C hM I HN hall p1 p3 p4 hone hR
      generalize Bl.putGo [] (xs.take k) = sofar at *
      obtain ⟨next, hnx⟩ : ∃ next, Bl.putGo [] (xs.take (k + 1)) = next := ⟨_, rfl⟩
      rw [hnx] at HT
      have HNX : Hid (Bl.putGo [] (xs.take (k + 1)) = next) := hnx
      clear hnx
      generalize Va.one A = o1 at *
      generalize Va.one R = o2 at *
      generalize Ce.put (xf, xb, g1, g2, g3, g4) = pc at *
      go_upto_if 17 with fail
      go_cut [5] from 10 to 73 (fun s5 wx => s5 = .int .i64 (A : Nat) ∧ Below w.heap.size w wx ∧ wx.ownsRow w.heap.size 5 1 (.slice a' m c') m (kcells .u8 (hd ++ sofar)))
      case first =>
        by_cases hk0 : k = 0
        · have hA00 : A = 0 := by rw [HA.out, hk0]; simp [Bl.prevKey, Bl.alike]
          have ik : decide ((0 : Int) < (k : Int)) = false := by simp; omega
          have ik2 : decide (0 < k) = false := by simp; omega
          clear HA HC HI HC1 hrc
          go_wp2
          go_meet
          case rel => exact ⟨by rw [hA00]; rfl, hbel, hown⟩
        · obtain ⟨k1, hk1⟩ : ∃ k1, k = k1 + 1 := ⟨k - 1, by omega⟩
          have ik : decide ((0 : Int) < (k : Int)) = true := by simp; omega
          have ik2 : decide (0 < k) = true := by simp; omega
          have jk : IntKind.i64.wrap ((k : Int) - 1) = (k1 : Int) := by rw [IntKind.wrap_i64]; omega
          have k10 : (0 : Int) ≤ (k1 : Int) := by omega
          have k11 : (k1 : Int) < (n : Int) := by omega
          have hpk : Bl.prevKey xs k = (xs.getD k1 It.zero).1 := by rw [hk1]; simp [Bl.prevKey]
          have I1 := HI.out k1 (by omega) wr hbel
          obtain ⟨v0, _⟩ := HC.out k1 (by omega) wr hbel
          obtain ⟨y0, _⟩ := HC1.out wr hbel
          have hp64 := (Bl.it_parts (HM.out k1 (by omega))).2.1
          rw [hpk, ← I1.key] at HA
          rw [← I1.key, kb_len] at hp64
          generalize (gs.getD k1 ihz).key = key0 at *
          simp only at y0
          have hal := fun W => refalike_q key0 key W (by omega) (by omega)
          rw [← HA.out] at hal
          have hkp : 0 < k := by omega
          clear HA HC HI HC1 hrc I1 hpk HM hk1 hk0
          go_wp2_with fail
          go_quiet ((go_at_call 73; refine Calls.quiet_of (hal _)))
          go_wp2
          go_meet
          case rel => exact ⟨rfl, hbel.trans (below_drewN _ _ _), owns_below hown (below_drewN _ _ _)⟩
      case rest =>
        obtain ⟨rfl, hbW1, hoW1⟩ := hcut
        clear HA HC HI HM hbel hown
        have ho1' : Hid (∀ u ∈ o1, u < lim .u8) := ho1
        have ho2' : Hid (∀ u ∈ o2, u < lim .u8) := ho2
        have hqs' : Hid (∀ u ∈ pc, u < lim .u8) := hqs
        have hrc' : Hid (_) := hrc
        have hex' : Hid (_) := hex
        have HQ : Hid (o1.length ≤ 10 ∧ o2.length ≤ 10 ∧ R ≤ 64 ∧ m ≤ 10 + 200 * k ∧ k < n ∧ n ≤ 256) := (⟨hl1, hl2, hRs, hm, hlt, hn256⟩ : o1.length ≤ 10 ∧ o2.length ≤ 10 ∧ R ≤ 64 ∧ m ≤ 10 + 200 * k ∧ k < n ∧ n ≤ 256)
        obtain ⟨y0, y1, y2, y3, y4, y5, y6, y7⟩ := HC1.out wc hbW1
        simp only at y0 y1 y2 y3 y4 y5 y6 y7
        have hql' : Hid (_) := hql
        clear ho1 ho2 hqs hrc hex hfits hrow hnil hql hol
        have hq1 : m + o1.length ≤ 1000000000000 := by omega
        go_wp2_with (first
          | (go_at_call 48; have := y0; go_must (refine (hone1 _).mono ?_; rintro e w2 ⟨a2, c2, rfl, hown2, hbel2⟩; have hb2 := hbW1.trans (hbel2.mono hbW1.size); have hr2 := row_of_owns hown2 ho1'.out (Nat.le_trans HQ.out.1 (by decide)); have hk2 := owns_below hoW1 hbel2; clear hone1 y0 y1 y2 y3 y4 y5 y6 y7 hown2 hbel2))
          | (at_builtin; go_must (refine append_u8g (w0 := w) (B := w.heap.size) rfl (.tmp 30) (.tmp 33) rfl _ m (hd ++ sofar) rfl hk2 a2 o1.length c2 o1 rfl hr2.1 hr2.2.1 hq1 hb2 hb2.size ?_; intro a3 c3 w3 hown3 hb3 hsz3 hg3; obtain ⟨x0, x1, x2, x3, x4, x5, x6, x7⟩ := HC1.out w3 hb3; simp only at x0 x1 x2 x3 x4 x5 x6 x7; clear hg3 hk2 hb2 hr2)))
        obtain ⟨ex, hxe⟩ : ∃ ex, ex = key.extract A key.size := ⟨_, rfl⟩
        have HXE : Hid (kb ex = (kb key).drop A) := (by rw [hxe]; exact hex'.out : kb ex = (kb key).drop A)
        have hexe : key.extract A key.size = ex := hxe.symm
        rw [hexe] at hexs
        have hq2 : m + o1.length + o2.length ≤ 1000000000000 := by have := HQ.out; omega
        have hq3 : m + o1.length + o2.length + ex.size ≤ 1000000000000 := by have := HQ.out; omega
        have hq4 : m + o1.length + o2.length + ex.size + 1 ≤ 1000000000000 := by have := HQ.out; omega
        have Hq5 : Hid (m + o1.length + o2.length + ex.size + 1 + pc.length ≤ 10 + 200 * (k + 1)) := (by have := HQ.out; have := hql'.out; omega : m + o1.length + o2.length + ex.size + 1 + pc.length ≤ 10 + 200 * (k + 1))
        have HEs : Hid (ex.size = R) := hexs
        clear hxe hex' hexs
        cases dead with
        | true =>
          have HE1 : Hid (next = sofar ++ o1 ++ o2 ++ kb ex ++ [1]) := (by rw [HT.out, HP.out, HXE.out]; simp : next = sofar ++ o1 ++ o2 ++ kb ex ++ [1])
          clear HT HP hrc' HXE
          go_wp2_with (first
            | (at_builtin; have := t0; go_must (refine append_u8g (w0 := w) (B := w.heap.size) rfl (.tmp 61) (.tmp 62) rfl _ (m + o1.length + o2.length + ex.size) (hd ++ sofar ++ o1 ++ o2 ++ kb ex) rfl (hown6.alloc _) _ 1 1 [1] rfl (row_new .u8 _ 5 1 (by decide)) (fun h => by cases h) hq4 (hb6.alloc hsz6 _) (by simp; omega) ?_; intro a7 c7 w7 hown7 hb7 hsz7 hg7; clear t0 t1 t2 t3 t4 t5 t6 t7))
            | (at_builtin; have := z0; go_must (refine append_str (w0 := w) (B := w.heap.size) rfl (.tmp 47) (.tmp 54) rfl _ (m + o1.length + o2.length) (hd ++ sofar ++ o1 ++ o2) rfl hown5 ex rfl hq3 hb5 hsz5 ?_; intro a6 c6 w6 hown6 hb6 hsz6 hg6; obtain ⟨t0, t1, t2, t3, t4, t5, t6, t7⟩ := HC1.out w6 hb6; simp only at t0 t1 t2 t3 t4 t5 t6 t7; clear hg6 z0 z1 z2 z3 z4 z5 z6 z7))
            | (at_builtin; have := hk4; go_must (refine append_u8g (w0 := w) (B := w.heap.size) rfl (.tmp 35) (.tmp 45) rfl _ (m + o1.length) (hd ++ sofar ++ o1) rfl hk4 a4 o2.length c4 o2 rfl hr4.1 hr4.2.1 hq2 hb4 hb4.size ?_; intro a5 c5 w5 hown5 hb5 hsz5 hg5; obtain ⟨z0, z1, z2, z3, z4, z5, z6, z7⟩ := HC1.out w5 hb5; simp only at z0 z1 z2 z3 z4 z5 z6 z7; clear hg5 hk4 hb4 hr4))
            | (go_at_call 48; have := x0; go_must (refine (hone2 _).mono ?_; rintro e w4 ⟨a4, c4, rfl, hown4, hbel4⟩; have hb4 := hb3.trans (hbel4.mono hsz3); have hr4 := row_of_owns hown4 ho2'.out (Nat.le_trans HQ.out.2.1 (by decide)); have hk4 := owns_below hown3 hbel4; clear hone2 x0 x1 x2 x3 x4 x5 x6 x7 hown4 hbel4)))
          refine ⟨⟨k + 1, a7, _, c7, by omega, by go_num, rfl, by have := Hq5.out; omega, ?_, hb7⟩, by simp [intOf]; omega⟩
          rw [HNX.out, HE1.out]
          simpa using hown7
        | false =>
          have HE1 : Hid (next = sofar ++ o1 ++ o2 ++ kb ex ++ [0] ++ pc) := (by rw [HT.out, HP.out, HXE.out]; simp : next = sofar ++ o1 ++ o2 ++ kb ex ++ [0] ++ pc)
          have hq6 : m + o1.length + o2.length + ex.size + 1 + pc.length ≤ 1000000000000 := by have := Hq5.out; have := HQ.out; omega
          have hql2 : Hid (pc.length ≤ 1000000) := (by have := hql'.out; omega : pc.length ≤ 1000000)
          clear HT HP HXE
          go_wp2_with (first
            | (at_builtin; have := z0; go_must (refine append_str (w0 := w) (B := w.heap.size) rfl (.tmp 47) (.tmp 54) rfl _ (m + o1.length + o2.length) (hd ++ sofar ++ o1 ++ o2) rfl hown5 ex rfl hq3 hb5 hsz5 ?_; intro a6 c6 w6 hown6 hb6 hsz6 hg6; obtain ⟨t0, t1, t2, t3, t4, t5, t6, t7⟩ := HC1.out w6 hb6; simp only at t0 t1 t2 t3 t4 t5 t6 t7; clear hg6 z0 z1 z2 z3 z4 z5 z6 z7))
            | (at_builtin; have := hk4; go_must (refine append_u8g (w0 := w) (B := w.heap.size) rfl (.tmp 35) (.tmp 45) rfl _ (m + o1.length) (hd ++ sofar ++ o1) rfl hk4 a4 o2.length c4 o2 rfl hr4.1 hr4.2.1 hq2 hb4 hb4.size ?_; intro a5 c5 w5 hown5 hb5 hsz5 hg5; obtain ⟨z0, z1, z2, z3, z4, z5, z6, z7⟩ := HC1.out w5 hb5; simp only at z0 z1 z2 z3 z4 z5 z6 z7; clear hg5 hk4 hb4 hr4))
            | (go_at_call 48; have := x0; go_must (refine (hone2 _).mono ?_; rintro e w4 ⟨a4, c4, rfl, hown4, hbel4⟩; have hb4 := hb3.trans (hbel4.mono hsz3); have hr4 := row_of_owns hown4 ho2'.out (Nat.le_trans HQ.out.2.1 (by decide)); have hk4 := owns_below hown3 hbel4; clear hone2 x0 x1 x2 x3 x4 x5 x6 x7 hown4 hbel4)))
          have hownK := (hown6.alloc (.cells #[.int .u8 0] 5)).drew
          have hrowK : Row .u8 (w6.alloc (.cells #[.int .u8 0] 5)).drew (some ⟨w6.heap.size, 0, none⟩) 1 [0] := row_newz .u8 w6 5 _ 0 rfl (by decide)
          have hbK := (hb6.alloc hsz6 (.cells #[.int .u8 0] 5)).drew
          have hszK := hbK.size
          have hne6 := World.new_ne w6 ⟨bb, off + k * 8 + 2, none⟩ t2
          go_region_held3 (fun w' => w'.cell? ⟨bb, off + k * 8 + 2, none⟩ = some (.bool xf) ∧ w'.cell? ⟨bb, off + k * 8 + 3, none⟩ = some (.slice qa qn qc) ∧ w'.cell? ⟨bb, off + k * 8 + 4, none⟩ = some (.int .i64 g1) ∧ w'.cell? ⟨bb, off + k * 8 + 5, none⟩ = some (.int .i64 g2) ∧ w'.cell? ⟨bb, off + k * 8 + 6, none⟩ = some (.int .i64 g3) ∧ w'.cell? ⟨bb, off + k * 8 + 7, none⟩ = some (.int .u32 (g4 : Nat))) (first | go_keep | (refine ⟨?_, ?_, ?_, ?_, ?_, ?_⟩ <;> assumption))
            (first
              | ((go_at_call 74; have := hown8; refine (hrc'.out _ hb8).mono ?_; rintro e w9 ⟨a9, c9, rfl, hown9, hbel9⟩; have hb9 := hb8.trans (hbel9.mono hsz8); have hr9 := row_of_owns hown9 hqs'.out (Nat.le_trans hql2.out (by decide)); have hk9 := owns_below hown8 hbel9; obtain ⟨q9, rfl⟩ := own_some6 hown9 hpp; obtain ⟨_, _, e2, e3, e4, e5, e6, e7⟩ := HC1.out w9 hb9; simp only at e2 e3 e4 e5 e6 e7))
              | ((have := hk9; refine step_u8h (w0 := w) (B := w.heap.size) (by rfl) _ _ (by rfl) _ (m + o1.length + o2.length + ex.size + 1) (hd ++ sofar ++ o1 ++ o2 ++ kb ex ++ [0]) (by rfl) hk9 q9 pc.length c9 pc (by rfl) hr9.1 hq6 hb9 hb9.size ?_; intro a10 c10 w10 hown10 hb10 hsz10 hg10; obtain ⟨_, _, f2, f3, f4, f5, f6, f7⟩ := HC1.out w10 hb10; simp only at f2 f3 f4 f5 f6 f7))
              | ((have := hownK; refine step_u8h (w0 := w) (B := w.heap.size) (by rfl) _ _ (by rfl) _ (m + o1.length + o2.length + ex.size) (hd ++ sofar ++ o1 ++ o2 ++ kb ex) (by rfl) hownK ⟨w6.heap.size, 0, none⟩ 1 1 [0] (by rfl) hrowK hq4 hbK hszK ?_; intro a8 c8 w8 hown8 hb8 hsz8 hg8; obtain ⟨_, _, d2, d3, d4, d5, d6, d7⟩ := HC1.out w8 hb8; simp only at d2 d3 d4 d5 d6 d7)))
          go_wp2
          refine ⟨⟨k + 1, a10, _, c10, by omega, by go_num, rfl, by have := Hq5.out; omega, ?_, hb10⟩, by simp [intOf]; omega⟩
          rw [HNX.out, HE1.out]
          simpa using hown10
    · obtain rfl : k = n := by omega
      rw [HE.out] at hown
      have hn2 : m = out.length := by have := hown.1; rw [H0.out]; rw [kcells_length] at this; omega
      have Hn : Hid (m = out.length) := hn2
      rw [← H0.out] at hown
      clear hn2
      go_wp2
      go_ret
      exact ⟨a', c', by rw [← Hn.out]; rfl, by rw [← Hn.out]; exact hown, hbel⟩
end Go.Proofs.YtikieblokfjphaaGreat
