/- Edits: one's bytes, as the reference tells them. -/
import Derived.Test.YtkbnojjjfonniaaES
import Derived.Deep.RegionHeld3
namespace Go.Proofs.Ytkbnojjjfonniaa
open Go.RowKit

set_option maxRecDepth 100000 in
set_option maxHeartbeats 400000 in
theorem rtextb_any (s : ByteArray) (hs : s.size ≤ 1000000) (w : World) : Calls Try.prog 47 #[.string s] w (Made .u8 5 w (Ed.text s)) := by
  have hone : ∀ (W : World) (z : Int), z = (s.size : Int) → Calls Try.prog 27 #[.int .u64 z] W (Made .u8 5 W (Va.one s.size)) := fun W z hz => hz ▸ one_any s.size s.size W (Nat.le_refl _) (by omega)
  have hl10 : (Va.one s.size).length ≤ 10 := Va.one_len10 (by omega)
  have E : Hid (Ed.text s = Va.one s.size ++ kb s) := (rfl : Ed.text s = _)
  obtain ⟨o, ho⟩ : ∃ o, o = Va.one s.size := ⟨_, rfl⟩
  rw [← ho] at hone hl10 E
  have i1 : ((s.size : Nat) : Int) < 18446744073709551616 := by omega
  generalize Ed.text s = T at *
  clear ho
  go_enter Try.func47, Try.ntmps47
  go_wp2_with (first | (go_at_call 27; go_must (refine (hone _ _ (by go_num)).mono ?_; rintro e w2 ⟨a2, c2, rfl, hown2, hb2⟩)) | (at_builtin; go_must (refine append_str (w0 := w) (B := w.heap.size) rfl (.tmp 6) (.tmp 7) rfl _ o.length o rfl hown2 s rfl (by omega) hb2 hb2.size ?_; intro a6 c6 w6 hown6 hb6 hsz6 hg6)))
  go_ret
  obtain rfl := E.out
  exact ⟨a6, c6, by rw [List.length_append, kb_len]; rfl, by rw [List.length_append, kb_len]; exact hown6, hb6⟩
theorem row_some {k : IntKind} {w : World} {a : Option Addr} {n : Nat} {bs : List Nat} (h : Row k w a n bs) (hn : 0 < n) : ∃ A : Addr, a = some A ∧ True := by
  rcases h.2.2.2 with h0 | ⟨b, off, e, _⟩
  · omega
  · exact ⟨_, e, trivial⟩
theorem row_late {w5 w7 w8 : World} {B e s m n B7 : Nat} {v v5 : Value} {xs ys : List Value} {e7 : TypeId} (h7 : w7.ownsRow B7 e7 1 v n xs) (hB : w5.heap.size ≤ B7) (h5 : w5.ownsRow B e s v5 m ys) (hg : w7.grownBy w8 v5.ownBlock) : w8.ownsRow B7 e7 1 v n xs := by
  refine h7.kept hg ?_
  cases hv : v5.ownBlock with
  | none =>
    cases hw : v.ownBlock with
    | none => exact .inl rfl
    | some k => exact .inr (by simp)
  | some k =>
    have hk := (h5.lt k hv).1
    exact .inr (fun h => own_ne h7 (Nat.lt_of_lt_of_le (by first | exact hk | exact (h5.lt k hv).2) hB) h.symm)
set_option maxRecDepth 100000 in
set_option maxHeartbeats 4000000 in
theorem rone_row (kd : Nat) (n i t a b c p q r : Int) (f g : ByteArray) (L : List Nat) (w : World) (hkd : kd < 256) (hk4 : ¬ (kd : Int) = 4) (hL : L.length ≤ 6) (hL1 : 0 < L.length) (hLs : ∀ x ∈ L, x < 18446744073709551616)
    (hnum : ∀ W, Calls Try.prog 46 #[ed12 (kd : Nat) n i t a b c p q r f g] W (Made .u64 52 W L)) :
    Calls Try.prog 28 #[ed12 (kd : Nat) n i t a b c p q r f g] w (Made .u8 5 w (kd :: Va.put L)) := by
  have hput := fun W A C (h : Row .u64 W A L.length L) => refput_any A L.length C L W (by omega) h
  have hpl := Va.put_len L hLs
  have hps := Va.put_small L
  have hpp : 0 < (Va.put L).length := by
    cases L with
    | nil => simp at hL1
    | cons x l => have := Va.one_pos x; simp [Va.put]; omega
  generalize Va.put L = O at *
  obtain ⟨m, hm⟩ : ∃ m, L.length = m := ⟨_, rfl⟩
  rw [hm] at hput hpl hL hL1
  have hnum : ∀ W, Calls Try.prog 46 #[ed12 (kd : Nat) n i t a b c p q r f g] W fun e w' => ∃ a2 c2, e = .returned (.slice a2 m c2) ∧ w'.ownsRow W.heap.size 52 1 (.slice a2 m c2) m (kcells .u64 L) ∧ Below W.heap.size W w' := fun W => by have := hnum W; unfold Made at this; rw [hm] at this; exact this
  clear hm
  have i1 : IntKind.u8.wrap (kd : Int) = (kd : Int) := by rw [IntKind.wrap_u8]; omega
  have hK : ∀ W, Below (w.heap.size + 1) (w.alloc (oed (kd : Nat) n i t a b c p q r f g)) W → C12 W w.heap.size (kd : Nat) n i t a b c p q r f g := fun W h => c12_of ((h.block _ (by omega)).trans (heap_alloc_new w _))
  obtain ⟨k0, k1, k2, k3, k4, k5, k6, k7, k8, k9, k10, k11⟩ := hK _ (Below.refl _ _)
  have hoA : Hid (((w.alloc (oed (kd : Nat) n i t a b c p q r f g)).alloc (.cells #[.int .u8 (kd : Nat)] 5)).ownsRow (w.heap.size + 1) 5 1 (.slice (some ⟨w.heap.size + 1, 0, none⟩) 1 1) 1 (kcells .u8 [kd])) := own_lit (w.alloc (oed (kd : Nat) n i t a b c p q r f g)) kd (w.heap.size + 1) (by simp) (by simp)
  have hbA : Hid (Below (w.heap.size + 1) (w.alloc (oed (kd : Nat) n i t a b c p q r f g)) ((w.alloc (oed (kd : Nat) n i t a b c p q r f g)).alloc (.cells #[.int .u8 (kd : Nat)] 5))) := (Below.refl _ _).alloc (by simp) _
  have hnA : Hid (Calls Try.prog 46 #[ed12 (kd : Nat) n i t a b c p q r f g] ((w.alloc (oed (kd : Nat) n i t a b c p q r f g)).alloc (.cells #[.int .u8 (kd : Nat)] 5)).drew _) := hnum ((w.alloc (oed (kd : Nat) n i t a b c p q r f g)).alloc (.cells #[.int .u8 (kd : Nat)] 5)).drew
  have hnB : Hid (Calls Try.prog 46 #[ed12 (kd : Nat) n i t a b c p q r f g] (w.alloc (oed (kd : Nat) n i t a b c p q r f g)).drew _) := hnum (w.alloc (oed (kd : Nat) n i t a b c p q r f g)).drew
  clear hnum
  go_enter Try.func28, Try.ntmps28
  go_wp2_with fail
  go_region_held3 (fun w' => w'.cell? ⟨w.heap.size, 0, none⟩ = some (.int .i64 (kd : Nat)) ∧ w'.cell? ⟨w.heap.size, 1, none⟩ = some (.int .i64 n) ∧ w'.cell? ⟨w.heap.size, 2, none⟩ = some (.int .i64 i) ∧ w'.cell? ⟨w.heap.size, 3, none⟩ = some (.int .i64 t) ∧ w'.cell? ⟨w.heap.size, 4, none⟩ = some (.int .i64 a) ∧ w'.cell? ⟨w.heap.size, 5, none⟩ = some (.int .i64 b) ∧ w'.cell? ⟨w.heap.size, 6, none⟩ = some (.int .i64 c) ∧ w'.cell? ⟨w.heap.size, 7, none⟩ = some (.int .i64 p) ∧ w'.cell? ⟨w.heap.size, 8, none⟩ = some (.int .i64 q) ∧ w'.cell? ⟨w.heap.size, 9, none⟩ = some (.int .i64 r) ∧ w'.cell? ⟨w.heap.size, 10, none⟩ = some (.string f) ∧ w'.cell? ⟨w.heap.size, 11, none⟩ = some (.string g)) (first | go_keep | (refine ⟨?_, ?_, ?_, ?_, ?_, ?_, ?_, ?_, ?_, ?_, ?_, ?_⟩ <;> assumption))
    (first
      | ((go_at_call 46; (with_reducible refine (hnA.out).mono ?_); go_must (rintro e w2 ⟨a2, c2, rfl, hown2, hb2⟩; have tA : Hid (0 = 0) := (rfl : 0 = 0); have hb2d := below_of_drew hb2; have hB2 := hbA.out.trans (hb2d.mono (by simp)); have hs2 : w.heap.size + 1 ≤ w2.heap.size := (by have := hB2.size; simpa using this); have hk2 := owns_below hoA.out hb2d; have hr2 := (row_of_owns hown2 (fun x hx => by show x < 18446744073709551616; exact hLs x hx) (by omega)).1; obtain ⟨u0, u1, u2, u3, u4, u5, u6, u7, u8, u9, u10, u11⟩ := hK _ hB2; clear hnA hnB hoA)))
      | ((go_at_call 46; (with_reducible refine (hnB.out).mono ?_); go_must (rintro e w2 ⟨a2, c2, rfl, hown2, hb2⟩; have tB : Hid (0 = 0) := (rfl : 0 = 0); have hb2d := below_of_drew hb2; have hB2 : Below (w.heap.size + 1) (w.alloc (oed (kd : Nat) n i t a b c p q r f g)) w2 := (by simpa using hb2d); have hs2 : w.heap.size + 1 ≤ w2.heap.size := (by have := hB2.size; simpa using this); have hk2 := own_lit w2 kd (w.heap.size + 1) hs2 (g := w2.heap.size) rfl; have hr2 := (row_of_owns hown2 (fun x hx => by show x < 18446744073709551616; exact hLs x hx) (by omega)).1; have hp2 := hr2.below (below_alloc w2 (.cells #[.int .u8 (kd : Nat)] 5)) (Nat.le_refl _); have hpB : Hid (Calls Try.prog 45 #[.slice a2 m c2] (w2.alloc (.cells #[.int .u8 (kd : Nat)] 5)) _) := hput (w2.alloc (.cells #[.int .u8 (kd : Nat)] 5)) a2 c2 hp2; have hne := World.new_ne w2; obtain ⟨u0, u1, u2, u3, u4, u5, u6, u7, u8, u9, u10, u11⟩ := hK _ hB2; clear hnA hnB hoA)))
      | ((have := tA; go_at_call 45; (with_reducible refine (hput _ _ _ hr2).mono ?_); go_must (rintro e w3 ⟨a3, c3, rfl, hown3, hb3⟩; have hB3 := hB2.trans (hb3.mono hs2); have hs3 : w.heap.size + 1 ≤ w3.heap.size := Nat.le_trans hs2 hb3.size; have hk3 := owns_below hk2 hb3; have hr3 := row_of_owns hown3 hps (by omega); have tS : Hid (0 = 0) := (rfl : 0 = 0); obtain ⟨v0, v1, v2, v3, v4, v5, v6, v7, v8, v9, v10, v11⟩ := hK _ hB3)))
      | ((have := tB; go_at_call 45; (with_reducible refine (hpB.out).mono ?_); go_must (rintro e w3 ⟨a3, c3, rfl, hown3, hb3⟩; have hB3 := (hB2.alloc hs2 (.cells #[.int .u8 (kd : Nat)] 5)).trans (hb3.mono (by simp; omega)); have hs3 : w.heap.size + 1 ≤ w3.heap.size := (by have := hB3.size; simpa using this); have hk3 := owns_below hk2 hb3; have hr3 := row_of_owns hown3 hps (by omega); have tS : Hid (0 = 0) := (rfl : 0 = 0); obtain ⟨v0, v1, v2, v3, v4, v5, v6, v7, v8, v9, v10, v11⟩ := hK _ hB3)))
      | ((have := tB; go_at_call 45; (with_reducible refine (hput _ _ _ hr2).mono ?_); go_must (rintro e w3 ⟨a3, c3, rfl, hown3, hb3⟩; have hB3 := hB2.trans (hb3.mono hs2); have hs3 : w.heap.size + 1 ≤ w3.heap.size := Nat.le_trans hs2 hb3.size; have hk3 := own_lit w3 kd (w.heap.size + 1) hs3 (g := w3.heap.size) rfl; have hr3 := row_of_owns hown3 hps (by omega); have tC : Hid (0 = 0) := (rfl : 0 = 0); obtain ⟨v0, v1, v2, v3, v4, v5, v6, v7, v8, v9, v10, v11⟩ := hK _ hB3)))
      | ((have := tS; obtain ⟨A3, eA3, _⟩ := row_some hr3.1 hpp; subst eA3; refine step_u8 (w0 := (w.alloc (oed (kd : Nat) n i t a b c p q r f g))) (B := w.heap.size + 1) (by rfl) _ _ (by rfl) _ 1 [kd] (by rfl) hk3 A3 O.length c3 O (by rfl) hr3.1 hpp (by omega) hB3 hs3 ?_; intro a4 c4 w4 hown4 hB4 hs4 hg4; obtain ⟨y0, y1, y2, y3, y4, y5, y6, y7, y8, y9, y10, y11⟩ := hK _ hB4))
      | ((have := tC; obtain ⟨A3, eA3, _⟩ := row_some hr3.1 hpp; subst eA3; refine step_u8 (w0 := (w.alloc (oed (kd : Nat) n i t a b c p q r f g))) (B := w.heap.size + 1) (by rfl) _ _ (by rfl) _ 1 [kd] (by rfl) hk3 A3 O.length c3 O (by rfl) (hr3.1.below (below_alloc w3 (.cells #[.int .u8 (kd : Nat)] 5)) (Nat.le_refl _)) hpp (by omega) (hB3.alloc hs3 (.cells #[.int .u8 (kd : Nat)] 5)) (by simp; omega) ?_; intro a4 c4 w4 hown4 hB4 hs4 hg4; obtain ⟨y0, y1, y2, y3, y4, y5, y6, y7, y8, y9, y10, y11⟩ := hK _ hB4)))
  all_goals
    go_wp2
    go_ret
    have e : 1 + O.length = (kd :: O).length := by rw [List.length_cons]; omega
    exact ⟨a4, c4, by rw [← e]; rfl, by rw [← e]; exact lowns_base hown4 (by omega), (below_alloc w _).trans (hB4.mono (by omega))⟩
set_option maxRecDepth 100000 in
set_option maxHeartbeats 4000000 in
theorem rone_tab (kd : Nat) (n i t a b c p q r : Int) (f g : ByteArray) (L : List Nat) (w : World) (hkd : kd < 256) (hk4 : ((kd : Int) == 4) = true) (hf : f.size ≤ 64) (hg : g.size ≤ 64) (hL : L.length ≤ 6) (hL1 : 0 < L.length) (hLs : ∀ x ∈ L, x < 18446744073709551616)
    (hnum : ∀ W, Calls Try.prog 46 #[ed12 (kd : Nat) n i t a b c p q r f g] W (Made .u64 52 W L)) :
    Calls Try.prog 28 #[ed12 (kd : Nat) n i t a b c p q r f g] w (Made .u8 5 w (kd :: (Va.put L ++ (Ed.text f ++ Ed.text g)))) := by
  have hput := fun W A C (h : Row .u64 W A L.length L) => refput_any A L.length C L W (by omega) h
  have hpl := Va.put_len L hLs
  have hps := Va.put_small L
  have hpp : 0 < (Va.put L).length := by
    cases L with
    | nil => simp at hL1
    | cons x l => have := Va.one_pos x; simp [Va.put]; omega
  have htf := fun W => rtextb_any f (by omega) W
  have htg := fun W => rtextb_any g (by omega) W
  have hlf : (Ed.text f).length ≤ 74 := by rw [Ed.text, List.length_append, kb_len]; have := Va.one_len10 (u := f.size) (by omega); omega
  have hlg : (Ed.text g).length ≤ 74 := by rw [Ed.text, List.length_append, kb_len]; have := Va.one_len10 (u := g.size) (by omega); omega
  have hsf := Ed.text_small f
  have hsg := Ed.text_small g
  have hpf : 0 < (Ed.text f).length := by rw [Ed.text, List.length_append]; have := Va.one_pos f.size; omega
  have hpg : 0 < (Ed.text g).length := by rw [Ed.text, List.length_append]; have := Va.one_pos g.size; omega
  generalize Ed.text f = F at *
  generalize Ed.text g = G at *
  generalize Va.put L = O at *
  obtain ⟨m, hm⟩ : ∃ m, L.length = m := ⟨_, rfl⟩
  rw [hm] at hput hpl hL hL1
  have hnum : ∀ W, Calls Try.prog 46 #[ed12 (kd : Nat) n i t a b c p q r f g] W fun e w' => ∃ a2 c2, e = .returned (.slice a2 m c2) ∧ w'.ownsRow W.heap.size 52 1 (.slice a2 m c2) m (kcells .u64 L) ∧ Below W.heap.size W w' := fun W => by have := hnum W; unfold Made at this; rw [hm] at this; exact this
  clear hm
  have i1 : IntKind.u8.wrap (kd : Int) = (kd : Int) := by rw [IntKind.wrap_u8]; omega
  have hK : ∀ W, Below (w.heap.size + 1) (w.alloc (oed (kd : Nat) n i t a b c p q r f g)) W → C12 W w.heap.size (kd : Nat) n i t a b c p q r f g := fun W h => c12_of ((h.block _ (by omega)).trans (heap_alloc_new w _))
  obtain ⟨k0, k1, k2, k3, k4, k5, k6, k7, k8, k9, k10, k11⟩ := hK _ (Below.refl _ _)
  have hoA : Hid (((w.alloc (oed (kd : Nat) n i t a b c p q r f g)).alloc (.cells #[.int .u8 (kd : Nat)] 5)).ownsRow (w.heap.size + 1) 5 1 (.slice (some ⟨w.heap.size + 1, 0, none⟩) 1 1) 1 (kcells .u8 [kd])) := own_lit (w.alloc (oed (kd : Nat) n i t a b c p q r f g)) kd (w.heap.size + 1) (by simp) (by simp)
  have hbA : Hid (Below (w.heap.size + 1) (w.alloc (oed (kd : Nat) n i t a b c p q r f g)) ((w.alloc (oed (kd : Nat) n i t a b c p q r f g)).alloc (.cells #[.int .u8 (kd : Nat)] 5))) := (Below.refl _ _).alloc (by simp) _
  have hnA : Hid (Calls Try.prog 46 #[ed12 (kd : Nat) n i t a b c p q r f g] ((w.alloc (oed (kd : Nat) n i t a b c p q r f g)).alloc (.cells #[.int .u8 (kd : Nat)] 5)).drew _) := hnum ((w.alloc (oed (kd : Nat) n i t a b c p q r f g)).alloc (.cells #[.int .u8 (kd : Nat)] 5)).drew
  have hnB : Hid (Calls Try.prog 46 #[ed12 (kd : Nat) n i t a b c p q r f g] (w.alloc (oed (kd : Nat) n i t a b c p q r f g)).drew _) := hnum (w.alloc (oed (kd : Nat) n i t a b c p q r f g)).drew
  clear hnum
  go_enter Try.func28, Try.ntmps28
  go_wp2_with fail
  go_region_held3 (fun w' => w'.cell? ⟨w.heap.size, 0, none⟩ = some (.int .i64 (kd : Nat)) ∧ w'.cell? ⟨w.heap.size, 1, none⟩ = some (.int .i64 n) ∧ w'.cell? ⟨w.heap.size, 2, none⟩ = some (.int .i64 i) ∧ w'.cell? ⟨w.heap.size, 3, none⟩ = some (.int .i64 t) ∧ w'.cell? ⟨w.heap.size, 4, none⟩ = some (.int .i64 a) ∧ w'.cell? ⟨w.heap.size, 5, none⟩ = some (.int .i64 b) ∧ w'.cell? ⟨w.heap.size, 6, none⟩ = some (.int .i64 c) ∧ w'.cell? ⟨w.heap.size, 7, none⟩ = some (.int .i64 p) ∧ w'.cell? ⟨w.heap.size, 8, none⟩ = some (.int .i64 q) ∧ w'.cell? ⟨w.heap.size, 9, none⟩ = some (.int .i64 r) ∧ w'.cell? ⟨w.heap.size, 10, none⟩ = some (.string f) ∧ w'.cell? ⟨w.heap.size, 11, none⟩ = some (.string g)) (first | go_keep | (refine ⟨?_, ?_, ?_, ?_, ?_, ?_, ?_, ?_, ?_, ?_, ?_, ?_⟩ <;> assumption))
    (first
      | ((go_at_call 46; (with_reducible refine (hnA.out).mono ?_); go_must (rintro e w2 ⟨a2, c2, rfl, hown2, hb2⟩; have tA : Hid (0 = 0) := (rfl : 0 = 0); have hb2d := below_of_drew hb2; have hB2 := hbA.out.trans (hb2d.mono (by simp)); have hs2 : w.heap.size + 1 ≤ w2.heap.size := (by have := hB2.size; simpa using this); have hk2 := owns_below hoA.out hb2d; have hr2 := (row_of_owns hown2 (fun x hx => by show x < 18446744073709551616; exact hLs x hx) (by omega)).1; obtain ⟨u0, u1, u2, u3, u4, u5, u6, u7, u8, u9, u10, u11⟩ := hK _ hB2; clear hnA hnB hoA)))
      | ((go_at_call 46; (with_reducible refine (hnB.out).mono ?_); go_must (rintro e w2 ⟨a2, c2, rfl, hown2, hb2⟩; have tB : Hid (0 = 0) := (rfl : 0 = 0); have hb2d := below_of_drew hb2; have hB2 : Below (w.heap.size + 1) (w.alloc (oed (kd : Nat) n i t a b c p q r f g)) w2 := (by simpa using hb2d); have hs2 : w.heap.size + 1 ≤ w2.heap.size := (by have := hB2.size; simpa using this); have hk2 := own_lit w2 kd (w.heap.size + 1) hs2 (g := w2.heap.size) rfl; have hr2 := (row_of_owns hown2 (fun x hx => by show x < 18446744073709551616; exact hLs x hx) (by omega)).1; have hp2 := hr2.below (below_alloc w2 (.cells #[.int .u8 (kd : Nat)] 5)) (Nat.le_refl _); have hpB : Hid (Calls Try.prog 45 #[.slice a2 m c2] (w2.alloc (.cells #[.int .u8 (kd : Nat)] 5)) _) := hput (w2.alloc (.cells #[.int .u8 (kd : Nat)] 5)) a2 c2 hp2; have hne := World.new_ne w2; obtain ⟨u0, u1, u2, u3, u4, u5, u6, u7, u8, u9, u10, u11⟩ := hK _ hB2; clear hnA hnB hoA)))
      | ((have := tA; go_at_call 45; (with_reducible refine (hput _ _ _ hr2).mono ?_); go_must (rintro e w3 ⟨a3, c3, rfl, hown3, hb3⟩; have hB3 := hB2.trans (hb3.mono hs2); have hs3 : w.heap.size + 1 ≤ w3.heap.size := Nat.le_trans hs2 hb3.size; have hk3 := owns_below hk2 hb3; have hr3 := row_of_owns hown3 hps (by omega); have tS : Hid (0 = 0) := (rfl : 0 = 0); obtain ⟨v0, v1, v2, v3, v4, v5, v6, v7, v8, v9, v10, v11⟩ := hK _ hB3)))
      | ((have := tB; go_at_call 45; (with_reducible refine (hpB.out).mono ?_); go_must (rintro e w3 ⟨a3, c3, rfl, hown3, hb3⟩; have hB3 := (hB2.alloc hs2 (.cells #[.int .u8 (kd : Nat)] 5)).trans (hb3.mono (by simp; omega)); have hs3 : w.heap.size + 1 ≤ w3.heap.size := (by have := hB3.size; simpa using this); have hk3 := owns_below hk2 hb3; have hr3 := row_of_owns hown3 hps (by omega); have tS : Hid (0 = 0) := (rfl : 0 = 0); obtain ⟨v0, v1, v2, v3, v4, v5, v6, v7, v8, v9, v10, v11⟩ := hK _ hB3)))
      | ((have := tB; go_at_call 45; (with_reducible refine (hput _ _ _ hr2).mono ?_); go_must (rintro e w3 ⟨a3, c3, rfl, hown3, hb3⟩; have hB3 := hB2.trans (hb3.mono hs2); have hs3 : w.heap.size + 1 ≤ w3.heap.size := Nat.le_trans hs2 hb3.size; have hk3 := own_lit w3 kd (w.heap.size + 1) hs3 (g := w3.heap.size) rfl; have hr3 := row_of_owns hown3 hps (by omega); have tC : Hid (0 = 0) := (rfl : 0 = 0); obtain ⟨v0, v1, v2, v3, v4, v5, v6, v7, v8, v9, v10, v11⟩ := hK _ hB3)))
      | ((have := tS; obtain ⟨A3, eA3, _⟩ := row_some hr3.1 hpp; subst eA3; refine step_u8 (w0 := (w.alloc (oed (kd : Nat) n i t a b c p q r f g))) (B := w.heap.size + 1) (by rfl) _ _ (by rfl) _ 1 [kd] (by rfl) hk3 A3 O.length c3 O (by rfl) hr3.1 hpp (by omega) hB3 hs3 ?_; intro a4 c4 w4 hown4 hB4 hs4 hg4; obtain ⟨y0, y1, y2, y3, y4, y5, y6, y7, y8, y9, y10, y11⟩ := hK _ hB4))
      | ((have := tC; obtain ⟨A3, eA3, _⟩ := row_some hr3.1 hpp; subst eA3; refine step_u8 (w0 := (w.alloc (oed (kd : Nat) n i t a b c p q r f g))) (B := w.heap.size + 1) (by rfl) _ _ (by rfl) _ 1 [kd] (by rfl) hk3 A3 O.length c3 O (by rfl) (hr3.1.below (below_alloc w3 (.cells #[.int .u8 (kd : Nat)] 5)) (Nat.le_refl _)) hpp (by omega) (hB3.alloc hs3 (.cells #[.int .u8 (kd : Nat)] 5)) (by simp; omega) ?_; intro a4 c4 w4 hown4 hB4 hs4 hg4; obtain ⟨y0, y1, y2, y3, y4, y5, y6, y7, y8, y9, y10, y11⟩ := hK _ hB4)))
  all_goals
    go_wp2_with fail
    have tF : Hid (0 = 0) := (rfl : 0 = 0)
    go_region_held3 (fun w' => w'.cell? ⟨w.heap.size, 0, none⟩ = some (.int .i64 (kd : Nat)) ∧ w'.cell? ⟨w.heap.size, 1, none⟩ = some (.int .i64 n) ∧ w'.cell? ⟨w.heap.size, 2, none⟩ = some (.int .i64 i) ∧ w'.cell? ⟨w.heap.size, 3, none⟩ = some (.int .i64 t) ∧ w'.cell? ⟨w.heap.size, 4, none⟩ = some (.int .i64 a) ∧ w'.cell? ⟨w.heap.size, 5, none⟩ = some (.int .i64 b) ∧ w'.cell? ⟨w.heap.size, 6, none⟩ = some (.int .i64 c) ∧ w'.cell? ⟨w.heap.size, 7, none⟩ = some (.int .i64 p) ∧ w'.cell? ⟨w.heap.size, 8, none⟩ = some (.int .i64 q) ∧ w'.cell? ⟨w.heap.size, 9, none⟩ = some (.int .i64 r) ∧ w'.cell? ⟨w.heap.size, 10, none⟩ = some (.string f) ∧ w'.cell? ⟨w.heap.size, 11, none⟩ = some (.string g)) (first | go_keep | (refine ⟨?_, ?_, ?_, ?_, ?_, ?_, ?_, ?_, ?_, ?_, ?_, ?_⟩ <;> assumption))
      (first
        | ((go_at_call 47; have := tF; go_must (refine (htf _).mono ?_; rintro e w5 ⟨a5, c5, rfl, hown5, hb5⟩; have hb5d := below_of_drew hb5; have hB5 := hB4.trans (hb5d.mono hs4); have hs5 : w.heap.size + 1 ≤ w5.heap.size := Nat.le_trans hs4 hb5d.size; have hk5 := owns_below hown4 hb5d; have hr5 := row_of_owns hown5 hsf (by omega); obtain ⟨h0, h1, h2, h3, h4, h5, h6, h7, h8, h9, h10, h11⟩ := hK _ hB5; clear tF)))
        | ((go_at_call 47; have := tG; go_must (refine (htg _).mono ?_; rintro e w7 ⟨a7, c7, rfl, hown7, hb7⟩; have hB7 := hB6.trans (hb7.mono hs6); have hs7 : w.heap.size + 1 ≤ w7.heap.size := Nat.le_trans hs6 hb7.size; have hk7 := owns_below hown6 hb7; have hr7 := row_of_owns hown7 hsg (by omega); obtain ⟨j0, j1, j2, j3, j4, j5, j6, j7, j8, j9, j10, j11⟩ := hK _ hB7)))
        | ((have := tG; obtain ⟨A7, eA7, _⟩ := row_some hr7.1 hpg; subst eA7; refine step_u8 (w0 := (w.alloc (oed (kd : Nat) n i t a b c p q r f g))) (B := w.heap.size + 1) (by rfl) _ _ (by rfl) _ (1 + O.length + F.length) ([kd] ++ O ++ F) (by rfl) hk7 A7 G.length c7 G (by rfl) hr7.1 hpg (by omega) hB7 hs7 ?_; intro a9 c9 w9 hown9 hB9 hs9 hg9; obtain ⟨z0, z1, z2, z3, z4, z5, z6, z7, z8, z9, z10, z11⟩ := hK _ hB9))
        | ((have := tM; obtain ⟨A7, eA7, _⟩ := row_some hr7.1 hpg; subst eA7; refine step_u8 (w0 := (w.alloc (oed (kd : Nat) n i t a b c p q r f g))) (B := w.heap.size + 1) (by rfl) _ _ (by rfl) _ (1 + O.length + F.length) ([kd] ++ O ++ F) (by rfl) hown8 A7 G.length c7 G (by rfl) ha8 hpg (by omega) hB8 hs8 ?_; intro a9 c9 w9 hown9 hB9 hs9 hg9; obtain ⟨z0, z1, z2, z3, z4, z5, z6, z7, z8, z9, z10, z11⟩ := hK _ hB9))
        | ((have := tL; obtain ⟨A5, eA5, _⟩ := row_some hr5' hpf; subst eA5; refine step_u8 (w0 := (w.alloc (oed (kd : Nat) n i t a b c p q r f g))) (B := w.heap.size + 1) (by rfl) _ _ (by rfl) _ (1 + O.length) ([kd] ++ O) (by rfl) hk5' A5 F.length c5 F (by rfl) hr5' hpf (by omega) hB7 hs7 ?_; intro a8 c8 w8 hown8 hB8 hs8 hg8; have ha8 := (row_of_owns (row_late hown7 (Nat.le_refl _) hk5 hg8) hsg (by omega)).1; have tM : Hid (0 = 0) := (rfl : 0 = 0); clear tL; obtain ⟨o0, o1, o2, o3, o4, o5, o6, o7, o8, o9, o10, o11⟩ := hK _ hB8))
        | ((go_at_call 47; go_must (refine (htg _).mono ?_; rintro e w7 ⟨a7, c7, rfl, hown7, hb7⟩; have hB7 := hB5.trans (hb7.mono hs5); have hs7 : w.heap.size + 1 ≤ w7.heap.size := Nat.le_trans hs5 hb7.size; have hk5' := owns_below hk5 hb7; have hr5' := hr5.1.below hb7 (Nat.le_refl _); have hr7 := row_of_owns hown7 hsg (by omega); have tL : Hid (0 = 0) := (rfl : 0 = 0); obtain ⟨j0, j1, j2, j3, j4, j5, j6, j7, j8, j9, j10, j11⟩ := hK _ hB7)))
        | ((obtain ⟨A5, eA5, _⟩ := row_some hr5.1 hpf; subst eA5; refine step_u8 (w0 := (w.alloc (oed (kd : Nat) n i t a b c p q r f g))) (B := w.heap.size + 1) (by rfl) _ _ (by rfl) _ (1 + O.length) ([kd] ++ O) (by rfl) hk5 A5 F.length c5 F (by rfl) hr5.1 hpf (by omega) hB5 hs5 ?_; intro a6 c6 w6 hown6 hB6 hs6 hg6; have tG : Hid (0 = 0) := (rfl : 0 = 0); obtain ⟨l0, l1, l2, l3, l4, l5, l6, l7, l8, l9, l10, l11⟩ := hK _ hB6)))
    all_goals
      go_wp2
      go_ret
      have e : 1 + O.length + F.length + G.length = (kd :: (O ++ (F ++ G))).length := by simp; omega
      have e2 : [kd] ++ O ++ F ++ G = kd :: (O ++ (F ++ G)) := by simp
      rw [e2] at hown9
      exact ⟨a9, c9, by rw [← e]; rfl, by rw [← e]; exact lowns_base hown9 (by omega), (below_alloc w _).trans (hB9.mono (by omega))⟩
end Go.Proofs.Ytkbnojjjfonniaa
