/- What the law FrameReads does, given the program's First and Scan. -/
import Derived.Test.YtjioipkohnlipaaG2
namespace Go.Proofs.Ytjioipkohnlipaa
open Go.RowKit

theorem shape_own {w : World} {base : Nat} {e : TypeId} {s : Nat} {a : Option Addr} {n cap : Nat} {xs : List Value} (h : w.ownsRow base e s (.slice a n cap) n xs) : Shape a n cap := by
  rcases h.2 with ⟨e, rfl⟩ | ⟨g, cap, cur, e, _, hh, hnc, _⟩
  · simp only [Value.slice.injEq] at e
    exact .inl ⟨rfl, e.2.2⟩
  · simp only [Value.slice.injEq] at e
    obtain ⟨rfl, _, rfl⟩ := e
    exact .inr ⟨g, 0, rfl, hnc⟩
theorem reads_long (hA : ∀ w, Calls Try.prog 8 #[] w fun e w' => e = .returned (.bool true) ∧ Below w.heap.size w w') (a : Option Addr) (len cap : Nat) (w : World) (h : 4000 < len) :
    Calls Try.prog 4 #[.slice a len cap] w fun e w' => e = .returned (.bool true) ∧ Below w.heap.size w w' := by
  go_enter Try.func4, Try.ntmps4
  go_wp2_with (go_at_call 8; refine (hA _).mono ?_; rintro e w' ⟨rfl, hbel⟩)
  go_ret
  exact ⟨rfl, by assumption⟩

/-- two frames alike, each behind a block of its own, then each laid out anew: what Same is handed -/
theorem two_rows {w2 w3 : World} {B2 B3 : Nat} {f : Fr.F} {A2 A3 : Option Addr} {C2 C3 : Nat}
    (ho2 : w2.ownsRow B2 5 1 (.slice A2 f.2.length C2) f.2.length (kcells .u8 f.2)) (hb3 : Below (w2.alloc (.cells #[.int .i64 f.1, .slice A2 f.2.length C2] 31)).heap.size (w2.alloc (.cells #[.int .i64 f.1, .slice A2 f.2.length C2] 31)) w3)
    (ho3 : w3.ownsRow B3 5 1 (.slice A3 f.2.length C3) f.2.length (kcells .u8 f.2)) (hs : ∀ x ∈ f.2, x < 256) (hl : f.2.length ≤ 1000000000) (hk : -9223372036854775808 ≤ f.1 ∧ f.1 ≤ 9223372036854775807) :
    w3.cell? ⟨w2.heap.size, 0, none⟩ = some (.int .i64 f.1) ∧ w3.cell? ⟨w2.heap.size, 1, none⟩ = some (.slice A2 f.2.length C2) ∧ w2.heap.size < w3.heap.size ∧
    FRow (((w3.alloc (.cells #[.int .i64 f.1, .slice A3 f.2.length C3] 31)).alloc (.cells #[.int .i64 f.1, .slice A2 f.2.length C2] 31)).alloc (.cells #[.int .i64 f.1, .slice A3 f.2.length C3] 31)) (some ⟨w3.heap.size + 1, 0, none⟩) 1 [f] ∧
    FRow (((w3.alloc (.cells #[.int .i64 f.1, .slice A3 f.2.length C3] 31)).alloc (.cells #[.int .i64 f.1, .slice A2 f.2.length C2] 31)).alloc (.cells #[.int .i64 f.1, .slice A3 f.2.length C3] 31)) (some ⟨w3.heap.size + 1 + 1, 0, none⟩) 1 [f] := by
  have hsz := hb3.size
  rw [World.size_alloc] at hsz
  have c2 := cell_two w2 (.int .i64 f.1) (.slice A2 f.2.length C2) 31 rfl
  have ho2' := owns_below (ho2.alloc (.cells #[.int .i64 f.1, .slice A2 f.2.length C2] 31)) hb3
  refine ⟨(hb3.cell (p := ⟨w2.heap.size, 0, none⟩) (by simp)).trans c2.1, (hb3.cell (p := ⟨w2.heap.size, 1, none⟩) (by simp)).trans c2.2, by omega, ?_, ?_⟩
  · have d := cell_two (w3.alloc (.cells #[.int .i64 f.1, .slice A3 f.2.length C3] 31)) (.int .i64 f.1) (.slice A2 f.2.length C2) 31 (b := w3.heap.size + 1) (by simp)
    exact frow_one (((ho2'.alloc _).alloc _).alloc _) hs hl hk ((cell_past _ _ ⟨w3.heap.size + 1, 0, none⟩ (by simp)).trans d.1) ((cell_past _ _ ⟨w3.heap.size + 1, 1, none⟩ (by simp)).trans d.2)
  · have d := cell_two ((w3.alloc (.cells #[.int .i64 f.1, .slice A3 f.2.length C3] 31)).alloc (.cells #[.int .i64 f.1, .slice A2 f.2.length C2] 31)) (.int .i64 f.1) (.slice A3 f.2.length C3) 31 (b := w3.heap.size + 1 + 1) (by simp)
    exact frow_one (((ho3.alloc _).alloc _).alloc _) hs hl hk d.1 d.2

theorem sc_small {bs : List Nat} {N : Nat} (hN : bs.length ≤ N) : ∀ (n at' : Nat) (l : List Fr.F) (ps : List Nat), at' ≤ bs.length → (∀ x ∈ ps, x ≤ N) → l.length ≤ at' → ((∀ x ∈ (Fr.sc n bs at' l ps).2.1, x ≤ N) ∧ (Fr.sc n bs at' l ps).1.length ≤ bs.length) := by
  intro n
  induction n with
  | zero => intro at' l ps h1 h2 h3; exact ⟨h2, by show l.length ≤ _; omega⟩
  | succ n ih =>
    intro at' l ps h1 h2 h3
    by_cases h : (Fr.first (bs.drop at')).2.2 = 0
    · rw [Fr.sc_ok h]
      have hk := Fr.first_ok h
      have hl := Fr.first_le (bs.drop at')
      rw [List.length_drop] at hl
      refine ih _ _ _ (by omega) ?_ (by rw [List.length_append]; simp; omega)
      intro x hx
      rcases List.mem_append.mp hx with h' | h'
      · exact h2 x h'
      · simp at h'; omega
    · rw [Fr.sc_no h]; exact ⟨h2, by show l.length ≤ _; omega⟩
theorem scan_small (bs : List Nat) : (∀ x ∈ (Fr.scan bs).2.1, x ≤ bs.length) ∧ (Fr.scan bs).1.length ≤ bs.length :=
  sc_small (Nat.le_refl _) _ 0 [] [] (by omega) (by intro x hx; simp at hx) (by simp)

set_option maxRecDepth 100000 in
set_option maxHeartbeats 2000000 in
theorem freads_any (hF : FirstC) (hS : ScanC) (hA : ∀ w, Calls Try.prog 8 #[] w fun e w' => e = .returned (.bool true) ∧ Below w.heap.size w w')
    (a : Option Addr) (len cap : Nat) (bs : List Nat) (w : World) (hlen : len ≤ 4000) (hshape : Shape a len cap) (hcap : len ≤ cap) (hnil : a = none → len = 0 ∧ cap = 0) (hr : Row .u8 w a len bs) :
    Calls Try.prog 4 #[.slice a len cap] w fun e w' => e = .returned (.bool true) ∧ Below w.heap.size w w' := by
  have hll : Hid (bs.length = len) := hr.1
  have hf1 := fun x (b : Option Addr) c W (h : Shape b len c) (hc : len ≤ c) (hb : Row .u8 W b len bs) (_ : x = 0) => hF b len c bs W h hc (by omega) hb
  have hf2 := fun W (h : Below w.heap.size w W) => reffirst_any a len cap bs W hcap (by omega) (hr.below h (Nat.le_refl _))
  have hs1 := fun (b : Option Addr) c W (h : Shape b len c) (hc : len ≤ c) (hb : Row .u8 W b len bs) => hS b len c bs W h hc (by omega) hb
  have hs2 := fun W (h : Below w.heap.size w W) => refscan_any a len cap bs W (by omega) hshape (hr.below h (Nat.le_refl _))
  have hsm := first_small hr.2.2.1
  have hkd := first_kind bs
  have hbl := first_blen bs
  rw [hll.out] at hbl
  generalize Fr.first bs = R1 at *
  obtain ⟨f, rn, rc⟩ := R1
  have hsc := scan_small bs
  rw [hll.out] at hsc
  generalize Fr.scan bs = R2 at *
  obtain ⟨fs, ps, at'⟩ := R2
  simp only at hsm hkd hbl hsc
  obtain ⟨hsc1, hsc2⟩ := hsc
  have hps : ∀ x ∈ ps, x < lim .i64 := fun x hx => by have := hsc1 x hx; show x < 18446744073709551616; omega
  clear hsc1
  have hb0 : Below w.heap.size w (w.alloc (.cells #[] 5)) := (Below.refl _ _).alloc (Nat.le_refl _) _
  have hmade := World.ownsRow_made (base := w.heap.size) (e := 5) (size := 1) w #[] 0 (Nat.le_refl _) (by decide) (by simp)
  unfold FirstRes at hf1 hf2
  unfold ScanRes at hs1 hs2
  simp only at hf1 hf2 hs1 hs2
  go_enter Try.func4, Try.ntmps4
  go_wp2_with (first
    | (at_builtin; have := hB4; go_must (refine append_u8 (w0 := w4) (B := w4.heap.size) rfl (.tmp 50) (.tmp 51) rfl _ 0 [] rfl (World.ownsRow_made (base := w4.heap.size) (e := 5) (size := 1) w4 #[] 0 (Nat.le_refl _) (by decide) (by simp)) a len cap bs rfl ((hr.below hB4 (Nat.le_refl _)).below (below_alloc _ _) (Nat.le_refl _)) hnil (by omega) (below_alloc _ _) (by simp) ?_; intro a5 c5 w5 hown5 hbel5 hsz5; simp only [List.nil_append] at hown5; rw [Nat.zero_add] at hown5 ⊢; have hB5 := hB4.trans (hbel5.mono hB4.size)))
    | (at_builtin; go_must (refine append_u8 rfl (.tmp 20) (.tmp 21) rfl _ 0 [] rfl hmade a len cap bs rfl (hr.below hb0 (Nat.le_refl _)) hnil (by omega) hb0 hb0.size ?_; intro a1 c1 w1 hown1 hbel1 hsz1; simp only [List.nil_append] at hown1; rw [Nat.zero_add] at hown1 ⊢))
    | (go_at_call 16; have := hown1; go_must (obtain ⟨ra, rb, rc1⟩ := row_of_owns hown1 hr.2.2.1 (by omega); refine (hf1 0 a1 c1 w1 (shape_own hown1) rc1 ra rfl).mono ?_; rintro e w2 ⟨A2, C2, rfl, hown2, hbel2⟩; have hB2 := hbel1.trans (hbel2.mono hsz1)))
    | (go_at_call 17; have := hB2; go_must (refine (hf2 _ (hB2.alloc hB2.size _)).mono ?_; rintro e w3 ⟨A3, C3, rfl, hown3, hbel3⟩; have hB3 := (hB2.alloc hB2.size _).trans (hbel3.mono (by simp; have := hB2.size; omega)); obtain ⟨k0, k1, k2, k3, k4⟩ := two_rows hown2 hbel3 hown3 hsm (by omega) hkd))
    | (go_at_call 19; have := hown5; go_must (obtain ⟨ra, rb, rc1⟩ := row_of_owns hown5 hr.2.2.1 (by omega); refine (hs1 a5 c5 w5 (shape_own hown5) rc1 ra).mono ?_; rintro e w6 ⟨a6, c6, a7, c7, cs6, rfl, hl6, hh6, hp6, hpk6, hbel6⟩; have hB6 := hB5.trans (hbel6.mono hB5.size)))
    | (go_at_call 20; have := hB6; go_must (refine (hs2 _ hB6).mono ?_; rintro e w7 ⟨a8, c8, a9, c9, cs7, rfl, hl7, hh7, hp7, hpk7, hbel7⟩; have hB7 := hB6.trans (hbel7.mono hB6.size)))
    | (go_at_call 18; have := hB7; go_must (refine (fsame_any _ _ _ fs _ _ _ fs _ (frow_of_owns (owns_below hl6 hbel7) (hh6.below hbel7) (by omega)).1 (frow_of_owns hl7 hh7 (by omega)).1).mono ?_; rintro e w8 ⟨rfl, hbel8⟩; have hB8 := hB7.trans (hbel8.mono hB7.size)))
    | (go_at_call 18; have := k4; go_must (refine (fsame_any _ 1 1 [f] _ 1 1 [f] _ k3 k4).mono ?_; rintro e w4 ⟨rfl, hbel4⟩; have hB4 := (((hB3.alloc hB3.size _).alloc (by simp; have := hB3.size; omega) _).alloc (by simp; have := hB3.size; omega) _).trans (hbel4.mono (by simp; have := hB3.size; omega))))
    | (go_at_call 21; have := hB8; go_must (refine (ints_any _ _ _ ps _ _ _ ps _ ((row_of_owns (owns_below (owns_below hp6 hbel7) hbel8) hps (by omega)).1) ((row_of_owns (owns_below hp7 hbel8) hps (by omega)).1)).mono ?_; rintro e w9 ⟨rfl, m9, rfl⟩; have hB9 := hB8.trans (below_drewN _ _ m9)))
    | (go_at_call 8; refine (hA _).mono ?_; rintro e w10 ⟨rfl, hbel10⟩))
  go_ret
  exact ⟨rfl, hB9.trans (hbel10.mono hB9.size)⟩

theorem size0 : Fr.size 0 = 6 := by unfold Fr.size; rw [Va.one_lo (by omega)]; rfl
theorem all_one : Fr.all [((1 : Int), [])] = Fr.put1 1 [] := by simp [Fr.all, Fr.one]
theorem first_six : Fr.first (Fr.put1 1 []) = (((1 : Int), []), 6, 0) := by
  have := Fr.first_put (k := 1) (b := []) (by omega) (by omega) (by simp) (by simp) [] (by simp)
  rw [List.append_nil] at this
  rw [this]
  show _ = (((1 : Int), ([] : List Nat)), 6, 0)
  rw [show Fr.size ([] : List Nat).length = 6 from size0]; rfl
theorem put_six : (Fr.put1 1 []).length = 6 := by rw [Fr.put1_len]; exact size0

set_option maxRecDepth 100000 in
set_option maxHeartbeats 1000000 in
theorem fawake (hP : PutC) (hF : FirstC) (hZ : SizeC) (w : World) : Calls Try.prog 8 #[] w fun e w' => e = .returned (.bool true) ∧ Below w.heap.size w w' := by
  have c2 := cell_two w (.int .i64 1) (.slice none 0 0) 31 rfl
  have hrow : FRow (w.alloc (.cells #[.int .i64 1, .slice none 0 0] 31)) (some ⟨w.heap.size, 0, none⟩) 1 [((1 : Int), [])] :=
    frow_one (B := 0) (f := ((1 : Int), [])) (A := none) (C := 0) (World.ownsRow_nil _ _ _ _) (by simp) (by simp) ⟨by decide, by decide⟩ c2.1 c2.2
  have hp := hP _ 1 1 _ _ hrow (by omega) (by decide)
  unfold PutRes at hp
  rw [all_one] at hp
  have hmay : ([((1 : Int), ([] : List Nat))].all Fr.may) = true := by decide
  rw [hmay, put_six] at hp
  have hsm : ∀ x ∈ Fr.put1 1 [], x < lim .u8 := Fr.put1_small (by omega) (by simp)
  have hz := fun W => hZ 0 W (by omega) (by omega)
  have hz0 : sizeZ 0 = 6 := by unfold sizeZ; rw [if_pos (by omega)]; exact size0
  rw [hz0] at hz
  clear c2 hrow hmay
  go_enter Try.func8, Try.ntmps8
  go_wp2_with (first
    | (go_at_call 13; refine hp.mono ?_; rintro e w1 (⟨_, a1, c1, rfl, hown1, hbel1⟩ | ⟨h, _⟩); rotate_left; (cases h); have hB1 := (below_alloc w (.cells #[.int .i64 1, .slice none 0 0] 31)).trans (hbel1.mono (by simp)))
    | (go_at_call 16; have := hown1; go_must (obtain ⟨ra, rb, rc⟩ := row_of_owns hown1 hsm (by omega); have hf := hF a1 6 c1 _ w1 (shape_own hown1) rc (by omega) ra; unfold FirstRes at hf; rw [first_six] at hf; simp only at hf; refine hf.mono ?_; rintro e w2 ⟨A2, C2, rfl, hown2, hbel2⟩; have hB2 := hB1.trans (hbel2.mono hB1.size)))
    | (go_at_call 9; refine (hz _).mono ?_; rintro e w3 ⟨rfl, hbel3⟩))
  have hB3 := hB2.alloc hB2.size (.cells #[.int .i64 1, .slice A2 0 C2] 31)
  go_ret
  exact ⟨rfl, hB3.trans (hbel3.mono hB3.size)⟩
end Go.Proofs.Ytjioipkohnlipaa
