/- What the program's bytesOf does. -/
import Derived.Test.YtfejgedgmaljfaaBXb
import Derived.Test.YtfejgedgmaljfaaE10
import Derived.Deep.RegionHeld3
namespace Go.Proofs.Ytfejgedgmaljfaa
open Go.RowKit

set_option maxRecDepth 100000 in
set_option maxHeartbeats 4000000 in
theorem bytesof_walk (i : Int) (t kd : Nat) (s : ByteArray) (f : Bool) (a : Option Addr) (n c : Nat) (ps py pl : Int) (pm : Nat) (w : World) (out o1 o2 pc : List Nat) (ht : t ≤ 2147483647) (hkd : kd ≤ 2) (hs : s.size ≤ 64)
    (ho2 : ∀ u ∈ o2, u < lim .u8) (hpc : ∀ u ∈ pc, u < lim .u8) (hl1 : o1.length ≤ 10) (hp1 : 0 < o1.length) (hl2 : o2.length ≤ 10) (hp2 : 0 < o2.length) (hl3 : pc.length ≤ 200)
    (hput1 : ∀ (W : World) (q : Addr), Row .u64 W (some q) 1 [t] → Calls Try.prog 25 #[.slice (some q) 1 1] W (Made .u8 5 W o1))
    (hput2 : ∀ (W : World) (q : Addr), Row .u64 W (some q) 1 [s.size] → Calls Try.prog 25 #[.slice (some q) 1 1] W (Made .u8 5 W o2))
    (hcp : ∀ W, Below w.heap.size w W → Calls Try.prog 42 #[.agg #[.bool f, .slice a n c, .int .i64 ps, .int .i64 py, .int .i64 pl, .int .u32 (pm : Nat)]] W fun e w' => ∃ a c, e = .returned (.tuple #[.slice a pc.length c, .int .i64 0]) ∧ w'.ownsRow W.heap.size 5 1 (.slice a pc.length c) pc.length (kcells .u8 pc) ∧ Below W.heap.size W w')
    (HO : Hid (out = o1 ++ [kd] ++ o2 ++ kb s ++ (if kd = 2 then [] else pc))) :
    Calls Try.prog 26 #[.agg #[.int .i64 i, .int .i64 (t : Nat), .int .i64 (kd : Nat), .string s, .bool f, .slice a n c, .int .i64 ps, .int .i64 py, .int .i64 pl, .int .u32 (pm : Nat)]] w (Made .u8 5 w out) := by
  obtain ⟨W0, hW0⟩ : ∃ W0, W0 = w.alloc (.cells #[.int .i64 i, .int .i64 (t : Nat), .int .i64 (kd : Nat), .string s, .bool f, .slice a n c, .int .i64 ps, .int .i64 py, .int .i64 pl, .int .u32 (pm : Nat)] 34) := ⟨_, rfl⟩
  have hE0 : Hid (W0.heap[w.heap.size]? = some (.cells #[.int .i64 i, .int .i64 (t : Nat), .int .i64 (kd : Nat), .string s, .bool f, .slice a n c, .int .i64 ps, .int .i64 py, .int .i64 pl, .int .u32 (pm : Nat)] 34)) := (by rw [hW0]; exact heap_alloc_new w _ : W0.heap[w.heap.size]? = some (.cells #[.int .i64 i, .int .i64 (t : Nat), .int .i64 (kd : Nat), .string s, .bool f, .slice a n c, .int .i64 ps, .int .i64 py, .int .i64 pl, .int .u32 (pm : Nat)] 34))
  have hb0 : Below w.heap.size w W0 := by rw [hW0]; exact below_alloc _ _
  have hs0 : w.heap.size < W0.heap.size := ent_lt hE0.out
  obtain ⟨k0, k1, k2, k3, k4, k5, k6, k7, k8, k9⟩ := ent_cells hE0.out
  have i1 : IntKind.u64.wrap (t : Int) = (t : Int) := by simp only [IntKind.wrap_u64]; omega
  have i2 : IntKind.u8.wrap (kd : Int) = (kd : Int) := by rw [IntKind.wrap_u8]; omega
  have i3 : IntKind.u64.wrap (s.size : Int) = (s.size : Int) := by simp only [IntKind.wrap_u64]; omega
  have hne := World.new_ne W0 ⟨w.heap.size, 1, none⟩ k1
  have ht64 : t < lim .u64 := by show t < 18446744073709551616; omega
  have hs64 : s.size < lim .u64 := by show s.size < 18446744073709551616; omega
  have hk8 : kd < lim .u8 := by show kd < 256; omega
  have hA : Hid (Row .u64 ((W0.alloc (.cells #[.int .u8 (kd : Nat)] 5)).alloc (.cells #[.int .u64 (t : Nat)] 54)) (some ⟨W0.heap.size + 1, 0, none⟩) 1 [t]) := row_at .u64 (W0.alloc (.cells #[.int .u8 (kd : Nat)] 5)) 54 (t : Int) t (by simp) rfl ht64
  have hC : Hid (Row .u64 (W0.alloc (.cells #[.int .u64 (t : Nat)] 54)) (some ⟨W0.heap.size, 0, none⟩) 1 [t]) := row_at .u64 W0 54 (t : Int) t rfl rfl ht64
  have hB : Hid (Row .u64 ((W0.alloc (.cells #[.int .u64 (t : Nat)] 54)).alloc (.cells #[.int .u8 (kd : Nat)] 5)) (some ⟨W0.heap.size, 0, none⟩) 1 [t]) := hC.out.below (below_alloc _ _) (by simp)
  have hoB : Hid (Row .u8 ((W0.alloc (.cells #[.int .u64 (t : Nat)] 54)).alloc (.cells #[.int .u8 (kd : Nat)] 5)) (some ⟨W0.heap.size + 1, 0, none⟩) 1 [kd]) := row_at .u8 (W0.alloc (.cells #[.int .u64 (t : Nat)] 54)) 5 (kd : Int) kd (by simp) rfl hk8
  have hoA : Hid (Row .u8 ((W0.alloc (.cells #[.int .u8 (kd : Nat)] 5)).alloc (.cells #[.int .u64 (t : Nat)] 54)) (some ⟨W0.heap.size, 0, none⟩) 1 [kd]) := (row_at .u8 W0 5 (kd : Int) kd rfl rfl hk8).below (below_alloc _ _) (by simp)
  have hbC : Hid (Below W0.heap.size W0 (W0.alloc (.cells #[.int .u64 (t : Nat)] 54))) := below_alloc _ _
  have hbA : Hid (Below W0.heap.size W0 ((W0.alloc (.cells #[.int .u8 (kd : Nat)] 5)).alloc (.cells #[.int .u64 (t : Nat)] 54))) := (below_alloc _ _).alloc (by simp) _
  have hbB : Hid (Below W0.heap.size W0 ((W0.alloc (.cells #[.int .u64 (t : Nat)] 54)).alloc (.cells #[.int .u8 (kd : Nat)] 5))) := (below_alloc _ _).alloc (by simp) _
  have hdA : Hid (Calls Try.prog 25 #[.slice (some ⟨W0.heap.size + 1, 0, none⟩) 1 1] ((W0.alloc (.cells #[.int .u8 (kd : Nat)] 5)).alloc (.cells #[.int .u64 (t : Nat)] 54)).drew (Made .u8 5 ((W0.alloc (.cells #[.int .u8 (kd : Nat)] 5)).alloc (.cells #[.int .u64 (t : Nat)] 54)).drew o1)) := hput1 ((W0.alloc (.cells #[.int .u8 (kd : Nat)] 5)).alloc (.cells #[.int .u64 (t : Nat)] 54)).drew _ hA.out
  have hdB : Hid (Calls Try.prog 25 #[.slice (some ⟨W0.heap.size, 0, none⟩) 1 1] ((W0.alloc (.cells #[.int .u64 (t : Nat)] 54)).alloc (.cells #[.int .u8 (kd : Nat)] 5)).drew (Made .u8 5 ((W0.alloc (.cells #[.int .u64 (t : Nat)] 54)).alloc (.cells #[.int .u8 (kd : Nat)] 5)).drew o1)) := hput1 ((W0.alloc (.cells #[.int .u64 (t : Nat)] 54)).alloc (.cells #[.int .u8 (kd : Nat)] 5)).drew _ hB.out
  have hdC : Hid (Calls Try.prog 25 #[.slice (some ⟨W0.heap.size, 0, none⟩) 1 1] (W0.alloc (.cells #[.int .u64 (t : Nat)] 54)).drew (Made .u8 5 (W0.alloc (.cells #[.int .u64 (t : Nat)] 54)).drew o1)) := hput1 (W0.alloc (.cells #[.int .u64 (t : Nat)] 54)).drew _ hC.out
  clear hput1 hA hB hC
  go_enter Try.func26, Try.ntmps26
  go_wp2_with fail
  rw [← hW0]
  have HW : Hid (W0 = w.alloc (.cells #[.int .i64 i, .int .i64 (t : Nat), .int .i64 (kd : Nat), .string s, .bool f, .slice a n c, .int .i64 ps, .int .i64 py, .int .i64 pl, .int .u32 (pm : Nat)] 34)) := hW0
  clear hW0
  go_region_held3 (fun w' => w'.cell? ⟨w.heap.size, 1, none⟩ = some (.int .i64 (t : Nat)) ∧ w'.cell? ⟨w.heap.size, 2, none⟩ = some (.int .i64 (kd : Nat))) (first | go_keep | (refine ⟨?_, ?_⟩ <;> assumption))
    (first
      | ((go_at_call 25; (with_reducible refine (hdA.out).mono ?_); go_must (rintro e w2 ⟨a2, c2, rfl, hown2, hbel2⟩; have hb2d := below_of_drew hbel2; have hB2 : Below W0.heap.size W0 w2 := (hbA.out).trans (hb2d.mono (hbA.out).size); have hw2 := hb0.trans (hB2.mono hb0.size); have hE2 := ent_below hE0.out hB2; obtain ⟨x0, x1, x2, x3, x4, x5, x6, x7, x8, x9⟩ := ent_cells hE2; have hown2' := hown2.mono (base' := w.heap.size) (Nat.le_trans hb0.size (hbA.out).size); have r1 := hoA.out.below hb2d (by simp))))
      | ((go_at_call 25; (with_reducible refine (hdB.out).mono ?_); go_must (rintro e w2 ⟨a2, c2, rfl, hown2, hbel2⟩; have hb2d := below_of_drew hbel2; have hB2 : Below W0.heap.size W0 w2 := (hbB.out).trans (hb2d.mono (hbB.out).size); have hw2 := hb0.trans (hB2.mono hb0.size); have hE2 := ent_below hE0.out hB2; obtain ⟨x0, x1, x2, x3, x4, x5, x6, x7, x8, x9⟩ := ent_cells hE2; have hown2' := hown2.mono (base' := w.heap.size) (Nat.le_trans hb0.size (hbB.out).size); have r1 := hoB.out.below hb2d (by simp))))
      | ((go_at_call 25; (with_reducible refine (hdC.out).mono ?_); go_must (rintro e w2 ⟨a2, c2, rfl, hown2, hbel2⟩; have hb2d := below_of_drew hbel2; have hB2 : Below W0.heap.size W0 w2 := (hbC.out).trans (hb2d.mono (hbC.out).size); have hw2 := hb0.trans (hB2.mono hb0.size); have hE2 := ent_below hE0.out hB2; obtain ⟨x0, x1, x2, x3, x4, x5, x6, x7, x8, x9⟩ := ent_cells hE2; have hown2' := hown2.mono (base' := w.heap.size) (Nat.le_trans hb0.size (hbC.out).size); have hne2 := World.new_ne w2 ⟨w.heap.size, 2, none⟩ x2)))
      | ((have := r1; refine step_u8h (w0 := w) (B := w.heap.size) (by rfl) _ _ (by rfl) _ o1.length o1 (by rfl) hown2' _ 1 1 [kd] (by rfl) r1 (by omega) hw2 hw2.size ?_; intro a3 c3 w3 hown3 hb3 hsz3 hg3; have hE3 : Hid (_) := ent_grown hE2 hown2' hg3; obtain ⟨y0, y1, y2, y3, y4, y5, y6, y7, y8, y9⟩ := ent_cells hE3.out))
      | ((have := hne2; refine step_u8h (w0 := w) (B := w.heap.size) (by rfl) _ _ (by rfl) _ o1.length o1 (by rfl) (hown2'.alloc _) ⟨w2.heap.size, 0, none⟩ 1 1 [kd] (by rfl) (row_at .u8 w2 5 (kd : Int) kd rfl rfl hk8) (by omega) (hw2.alloc hw2.size _) (Nat.le_trans hw2.size (by simp)) ?_; intro a3 c3 w3 hown3 hb3 hsz3 hg3; have hE3 : Hid (_) := ent_grown (ent_alloc hE2 _) (hown2'.alloc _) hg3; obtain ⟨y0, y1, y2, y3, y4, y5, y6, y7, y8, y9⟩ := ent_cells hE3.out)))
  all_goals
    have hbS := hb3.alloc hsz3 (.cells #[.int .u64 (s.size : Nat)] 54)
    have hoS := hown3.alloc (.cells #[.int .u64 (s.size : Nat)] 54)
    have hES : Hid (_) := ent_alloc hE3.out (.cells #[.int .u64 (s.size : Nat)] 54)
    have hrS := row_at .u64 w3 54 (s.size : Int) s.size rfl rfl hs64
    by_cases hk2 : kd = 2
    · have HE : Hid (out = o1 ++ [kd] ++ o2 ++ kb s) := (by rw [HO.out, if_pos hk2, List.append_nil] : out = o1 ++ [kd] ++ o2 ++ kb s)
      have hd2 : ((kd : Int) == 2) = true := by simp; omega
      clear HO hcp
      go_wp2_with (first
        | (go_at_call 25; go_must (refine (hput2 _ _ hrS).mono ?_; rintro e w4 ⟨a4, c4, rfl, hown4, hbel4⟩; have hE4 := ent_below hES.out hbel4; have hb4 := hbS.trans (hbel4.mono hbS.size); have hr4 := row_of_owns hown4 ho2 (by omega); have hk4 := owns_below hoS hbel4; obtain ⟨z0, z1, z2, z3, z4, z5, z6, z7, z8, z9⟩ := ent_cells hE4))
        | (at_builtin; have := hE5; go_must (refine append_str (w0 := w) (B := w.heap.size) rfl (.tmp 24) (.tmp 26) rfl _ (o1.length + 1 + o2.length) (o1 ++ [kd] ++ o2) rfl hown5 s rfl (by omega) hb5 hsz5 ?_; intro a6 c6 w6 hown6 hb6 hsz6 hg6; have hE6 : Hid (_) := ent_grown hE5.out hown5 hg6; obtain ⟨q0, q1, q2, q3, q4, q5, q6, q7, q8, q9⟩ := ent_cells hE6.out))
        | (at_builtin; have := hE4; go_must (refine append_u8g (w0 := w) (B := w.heap.size) rfl (.tmp 16) (.tmp 22) rfl _ (o1.length + 1) (o1 ++ [kd]) rfl hk4 a4 o2.length c4 o2 rfl hr4.1 hr4.2.1 (by omega) hb4 hb4.size ?_; intro a5 c5 w5 hown5 hb5 hsz5 hg5; have hE5 : Hid (_) := ent_grown hE4 hk4 hg5; obtain ⟨p0, p1, p2, p3, p4, p5, p6, p7, p8, p9⟩ := ent_cells hE5.out)))
      go_ret
      have hlen : out.length = o1.length + 1 + o2.length + s.size := by rw [HE.out]; simp only [List.length_append, List.length_singleton, kb_len]
      refine ⟨a6, c6, ?_, ?_, hb6⟩
      · rw [hlen]; rfl
      · rw [hlen, HE.out]; exact hown6
    · have HE : Hid (out = o1 ++ [kd] ++ o2 ++ kb s ++ pc) := (by rw [HO.out, if_neg hk2] : out = o1 ++ [kd] ++ o2 ++ kb s ++ pc)
      have hd2 : ((kd : Int) == 2) = false := by simp; omega
      clear HO
      go_wp2_with (first
        | (go_at_call 25; go_must (refine (hput2 _ _ hrS).mono ?_; rintro e w4 ⟨a4, c4, rfl, hown4, hbel4⟩; have hE4 := ent_below hES.out hbel4; have hb4 := hbS.trans (hbel4.mono hbS.size); have hr4 := row_of_owns hown4 ho2 (by omega); have hk4 := owns_below hoS hbel4; obtain ⟨z0, z1, z2, z3, z4, z5, z6, z7, z8, z9⟩ := ent_cells hE4))
        | (go_at_call 42; go_must (refine (hcp _ hb6).mono ?_; rintro e w7 ⟨a7, c7, rfl, hown7, hbel7⟩; have hb7 := hb6.trans (hbel7.mono hsz6); have hr7 := row_of_owns hown7 hpc (by omega); have hk7 := owns_below hown6 hbel7))
        | (at_builtin; have := hk7; go_must (refine append_u8g (w0 := w) (B := w.heap.size) rfl (.tmp 38) (.tmp 39) rfl _ (o1.length + 1 + o2.length + s.size) (o1 ++ [kd] ++ o2 ++ kb s) rfl hk7 a7 pc.length c7 pc rfl hr7.1 hr7.2.1 (by omega) hb7 hb7.size ?_; intro a8 c8 w8 hown8 hb8 hsz8 hg8))
        | (at_builtin; have := hE5; go_must (refine append_str (w0 := w) (B := w.heap.size) rfl (.tmp 24) (.tmp 26) rfl _ (o1.length + 1 + o2.length) (o1 ++ [kd] ++ o2) rfl hown5 s rfl (by omega) hb5 hsz5 ?_; intro a6 c6 w6 hown6 hb6 hsz6 hg6; have hE6 : Hid (_) := ent_grown hE5.out hown5 hg6; obtain ⟨q0, q1, q2, q3, q4, q5, q6, q7, q8, q9⟩ := ent_cells hE6.out))
        | (at_builtin; have := hE4; go_must (refine append_u8g (w0 := w) (B := w.heap.size) rfl (.tmp 16) (.tmp 22) rfl _ (o1.length + 1) (o1 ++ [kd]) rfl hk4 a4 o2.length c4 o2 rfl hr4.1 hr4.2.1 (by omega) hb4 hb4.size ?_; intro a5 c5 w5 hown5 hb5 hsz5 hg5; have hE5 : Hid (_) := ent_grown hE4 hk4 hg5; obtain ⟨p0, p1, p2, p3, p4, p5, p6, p7, p8, p9⟩ := ent_cells hE5.out)))
      go_ret
      have hlen : out.length = o1.length + 1 + o2.length + s.size + pc.length := by rw [HE.out]; simp only [List.length_append, List.length_singleton, kb_len]
      refine ⟨a8, c8, ?_, ?_, hb8⟩
      · rw [hlen]; rfl
      · rw [hlen, HE.out]; exact hown8

theorem bytesof_any (i t k : Int) (s : ByteArray) (f : Bool) (a : Option Addr) (n c : Nat) (bs : List Nat) (p : Po.P) (w : World) (hM : En.may (i, t, k, kb s, f, bs, p) = true) (hr : Row .u8 w a n bs) (hnil : a = none → n = 0 ∧ c = 0) (hfit : Po.Fits p) :
    Calls Try.prog 26 #[ev i t k s f a n c p] w (Made .u8 5 w (En.put1 (i, t, k, kb s, f, bs, p))) := by
  obtain ⟨hy1, hy2, hy3, hy4, hcm, hkl, hkind, _⟩ := En.may_parts hM
  simp only at hy3 hy4 hcm hkl hkind
  rw [kb_len] at hkl
  obtain ⟨t, rfl⟩ : ∃ u : Nat, t = (u : Int) := ⟨t.toNat, by omega⟩
  obtain ⟨kd, rfl⟩ : ∃ u : Nat, k = (u : Int) := ⟨k.toNat, by omega⟩
  obtain ⟨ps, py, pl, pm⟩ := p
  have hpo : ∀ (u : Nat) (W : World) (q : Addr), Row .u64 W (some q) 1 [u] → Calls Try.prog 25 #[.slice (some q) 1 1] W (Made .u8 5 W (Va.one u)) := fun u W q h => by
    have := put_any (some q) 1 1 [u] W (by omega) h
    simpa [Va.put] using this
  refine bytesof_walk i t kd s f a n c ps py pl pm w _ (Va.one t) (Va.one s.size) (Ce.put (f, bs, ps, py, pl, pm)) (by omega) (by omega) hkl (Va.one_small _) (Ce.put_small hr.2.2.1) (Va.one_len10 (by omega)) (Va.one_pos t) (Va.one_len10 (by omega)) (Va.one_pos _) (by have := Ce.put_len hcm; omega) (hpo t) (hpo s.size) ?_ ?_
  · intro W hW
    refine (cputC f a n c bs (ps, py, pl, pm) W (hr.below hW (Nat.le_refl _)) hnil hfit).mono ?_
    rintro e w' (⟨_, a', c', h⟩ | ⟨h, _⟩)
    · exact ⟨a', c', h⟩
    · rw [hcm] at h; cases h
  · have : En.put1 (i, (t : Int), (kd : Int), kb s, f, bs, ps, py, pl, pm) = Va.one t ++ [kd] ++ Va.one s.size ++ kb s ++ (if kd = 2 then [] else Ce.put (f, bs, ps, py, pl, pm)) := by
      unfold En.put1
      simp only [kb_len, Int.toNat_natCast]
      congr 1
      by_cases h : kd = 2
      · rw [if_pos h, if_pos (by omega)]
      · rw [if_neg h, if_neg (by omega)]
    exact this
end Go.Proofs.Ytfejgedgmaljfaa
