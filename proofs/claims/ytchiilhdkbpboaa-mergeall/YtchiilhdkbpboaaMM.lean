/- What the program's Get does. -/
import Derived.Test.YtchiilhdkbpboaaMJ
namespace Go.Proofs.Ytchiilhdkbpboaa
open Go.RowKit

/-- what Get tells -/
def MGetRes (w : World) (o : Option It.I) (e : Ending) (w' : World) : Prop := ∃ h, e = .returned (.tuple #[iv h, .bool o.isSome, .int .i64 0]) ∧ IsItem w' h (o.getD It.zero) ∧ Below w.heap.size w w'
theorem mg_none {w w1 : World} {o : Option It.I} (ho : o = none) (hb : Below w.heap.size w w1) : MGetRes w o (.returned (.tuple #[iv ihz, .bool false, .int .i64 0])) (set8 w1 w.heap.size ihz) := by
  subst ho
  exact ⟨ihz, rfl, item_zero _, set8_below hb _ _ (Nat.le_refl _)⟩
theorem mg_some {w w1 : World} {B : Nat} (hB : w.heap.size < B) {o : Option It.I} {h : IH} {x : It.I} (ho : o = some x) (hit : OwnIt w1 B h x) (hb : Below w.heap.size w w1) : MGetRes w o (.returned (.tuple #[iv h, .bool true, .int .i64 0])) (set8 w1 w.heap.size h) := by
  have h1 := owns_same (w' := set8 w1 w.heap.size h) hit.2 (fun k hk _ => set8_other _ _ _ k (by omega))
  have h3 := row_of_owns h1 hit.1.row.2.2.1 (Nat.le_trans hit.1.row.2.1 (by decide))
  subst ho
  exact ⟨h, rfl, ⟨hit.1.key, hit.1.dead, hit.1.far, hit.1.pt, h3.1, hit.1.nil, hit.1.le, hit.1.fits, hit.1.ksz⟩, set8_below hb _ _ (Nat.le_refl _)⟩
theorem ff_drop {l : List (List It.I)} {k : Nat} (hk : k < l.length) (key : List Nat) : Mg.ff (l.drop k) key = match It.find (l.getD k []) key with | some x => some x | none => Mg.ff (l.drop (k + 1)) key := by
  rw [drop_cons [] hk, Mg.ff]
  cases It.find (l.getD k []) key <;> rfl
theorem seek_no {a : Option Addr} {n c : Nat} {gs : List IH} {xs : List It.I} {s : ByteArray} {w : World} (hn : n ≤ 1000000) (hi : ItRow w a n gs xs) (hp : It.Up xs) (hf : It.find xs (kb s) = none) :
    Calls Try.prog 27 #[.slice a n c, .string s] w fun e w' => ∃ i : Nat, e = .returned (.tuple #[.int .i64 (i : Nat), .bool false]) ∧ Below w.heap.size w w' := by
  refine (mseek_any a n c gs xs s w hn hi hp).mono ?_
  rintro e w' ⟨i, f, rfl, h1, -, hb⟩
  cases f with
  | false => exact ⟨i, rfl, hb⟩
  | true =>
    obtain ⟨h2, h3⟩ := h1.2.1 rfl
    have h4 : i < xs.length := by rw [hi.len]; exact h2
    have h5 : xs.getD i It.zero ∈ xs := by rw [List.getD_eq_getElem?_getD, List.getElem?_eq_getElem h4]; exact List.getElem_mem _
    rw [(Mg.find_iff hp).mpr ⟨h5, h3⟩] at hf
    cases hf
theorem find_at {xs : List It.I} {k : List Nat} {x : It.I} (hp : It.Up xs) (hf : It.find xs k = some x) : ∃ I, I < xs.length ∧ xs.getD I It.zero = x ∧ ∀ i, i < xs.length → (xs.getD i It.zero).1 = k → i = I := by
  obtain ⟨h1, h2⟩ := It.find_mem hf
  obtain ⟨I, hI, e⟩ := List.getElem_of_mem h1
  have e' : xs.getD I It.zero = x := by rw [List.getD_eq_getElem?_getD, List.getElem?_eq_getElem hI]; exact e
  refine ⟨I, hI, e', fun i hi hk => ?_⟩
  rcases Nat.lt_trichotomy i I with h | h | h
  · have := It.rise_at hp h hI
    rw [hk, e', h2, It.lt_irrefl] at this
    cases this
  · exact h
  · have := It.rise_at hp h hi
    rw [hk, e', h2, It.lt_irrefl] at this
    cases this
theorem seek_yes {a : Option Addr} {n c : Nat} {gs : List IH} {xs : List It.I} {s : ByteArray} {w : World} {x : It.I} {I : Nat} (hn : n ≤ 1000000) (hi : ItRow w a n gs xs) (hp : It.Up xs) (hf : It.find xs (kb s) = some x) (hI : ∀ i, i < xs.length → (xs.getD i It.zero).1 = kb s → i = I) :
    Calls Try.prog 27 #[.slice a n c, .string s] w fun e w' => e = .returned (.tuple #[.int .i64 (I : Nat), .bool true]) ∧ Below w.heap.size w w' := by
  refine (mseek_any a n c gs xs s w hn hi hp).mono ?_
  rintro e w' ⟨i, f, rfl, h1, -, hb⟩
  cases f with
  | true =>
    obtain ⟨h2, h3⟩ := h1.2.1 rfl
    obtain rfl := hI i (by rw [hi.len]; exact h2) h3
    exact ⟨rfl, hb⟩
  | false =>
    obtain ⟨h2, h3⟩ := It.find_mem hf
    exact absurd h3 (h1.2.2 rfl x h2)

set_option maxRecDepth 100000 in
set_option maxHeartbeats 4000000 in
theorem mget_yes (a : Option Addr) (n c : Nat) (ps : List PH) (gss : List (List IH)) (xss : List (List It.I)) (s : ByteArray) (w : World) (hi : InP w a n ps gss xss) (hsz : ∀ i, i < n → (ps.getD i phz).n ≤ 100000) (hm : Mg.may xss = true) :
    Calls Try.prog 12 #[.slice a n c, .string s] w (MGetRes w (Mg.ff xss (kb s))) := by
  obtain ⟨hU, -, hl⟩ := Mg.may_keys hm
  have hsm := mg_small hm
  rw [hi.len] at hl
  have hb0 := below_alloc w (.cells #[.string ⟨#[]⟩, .bool false, .bool false, .slice none 0 0, .int .i64 0, .int .i64 0, .int .i64 0, .int .u32 0] 37)
  have hck := mcheck_any a n c ps gss xss _ (hi.below hb0 (Nat.le_refl _)) hsz
  rw [hm, if_pos rfl] at hck
  have hll : Hid (xss.length = n) := hi.len
  have HB : Hid (∀ W, Below (w.alloc (.cells #[.string ⟨#[]⟩, .bool false, .bool false, .slice none 0 0, .int .i64 0, .int .i64 0, .int .i64 0, .int .u32 0] 37)).heap.size (w.alloc (.cells #[.string ⟨#[]⟩, .bool false, .bool false, .slice none 0 0, .int .i64 0, .int .i64 0, .int .i64 0, .int .u32 0] 37)) W → Below w.heap.size w W ∧ w.heap.size < W.heap.size ∧ Eight W w.heap.size (.string ⟨#[]⟩) (.bool false) (.bool false) (.slice none 0 0) (.int .i64 0) (.int .i64 0) (.int .i64 0) (.int .u32 0)) := (fun W hW => ⟨hb0.trans (hW.mono hb0.size), Nat.lt_of_lt_of_le (by simp) hW.size, eight_of ((hW.block _ (by simp)).trans (heap_alloc_new w _))⟩ : _)
  have hB1 : Hid (w.heap.size < (w.alloc (.cells #[.string ⟨#[]⟩, .bool false, .bool false, .slice none 0 0, .int .i64 0, .int .i64 0, .int .i64 0, .int .u32 0] 37)).heap.size) := (by simp : w.heap.size < (w.alloc (.cells #[.string ⟨#[]⟩, .bool false, .bool false, .slice none 0 0, .int .i64 0, .int .i64 0, .int .i64 0, .int .u32 0] 37)).heap.size)
  have HI : Hid (InP (w.alloc (.cells #[.string ⟨#[]⟩, .bool false, .bool false, .slice none 0 0, .int .i64 0, .int .i64 0, .int .i64 0, .int .u32 0] 37)) a n ps gss xss) := (hi.below hb0 (Nat.le_refl _) : InP (w.alloc (.cells #[.string ⟨#[]⟩, .bool false, .bool false, .slice none 0 0, .int .i64 0, .int .i64 0, .int .i64 0, .int .u32 0] 37)) a n ps gss xss)
  obtain ⟨R, hR⟩ : ∃ R, R = Mg.ff xss (kb s) := ⟨_, rfl⟩
  rw [← hR]
  have HR : Hid (R = Mg.ff (xss.drop 0) (kb s)) := (hR : R = Mg.ff (xss.drop 0) (kb s))
  have HU : Hid (∀ x ∈ xss, It.Up x) := hU
  have HS : Hid (∀ a ∈ xss, ∀ x ∈ a, Small x) := hsm
  have HZ : Hid (∀ i, i < n → (ps.getD i phz).n ≤ 100000) := hsz
  clear hi hR hm hU hsm hsz hb0
  go_enter Try.func12, Try.ntmps12
  go_wp2_with (go_at_call 22; go_must (refine hck.mono ?_; rintro e w1 ⟨rfl, hb1⟩))
  generalize hW0 : w.alloc (.cells #[.string ⟨#[]⟩, .bool false, .bool false, .slice none 0 0, .int .i64 0, .int .i64 0, .int .i64 0, .int .u32 0] 37) = W0 at *
  clear hW0 hck
  go_loopw [20] (fun i wr => ∃ (k : Nat), k ≤ n ∧ i = .int .i64 k ∧ Hid (R = Mg.ff (xss.drop k) (kb s)) ∧ Below W0.heap.size W0 wr) (fun i _ => n - (intOf i).toNat)
  case atStart => exact ⟨0, by omega, rfl, HR, hb1⟩
  case round =>
    obtain ⟨k, hk, rfl, H, hbel⟩ := hrel
    clear HR hb1
    by_cases hlt : k < n
    · obtain ⟨bb, off, rfl, hc⟩ := HI.out.1.part (by omega)
      have hk' : k < xss.length := by rw [hll.out]; exact hlt
      have y0 := (hbel.cell (p := ⟨bb, off + k, none⟩) (cell_lt (hc k hlt))).trans (hc k hlt)
      have hin := HI.out.2.2.2 k hk'
      have hmm : xss.getD k [] ∈ xss := by rw [List.getD_eq_getElem?_getD, List.getElem?_eq_getElem hk']; exact List.getElem_mem _
      have hup : It.Up (xss.getD k []) := HU.out _ hmm
      have hss := HS.out _ hmm
      have hq1 := HZ.out k hlt
      have Hst : Hid (R = match It.find (xss.getD k []) (kb s) with | some x => some x | none => Mg.ff (xss.drop (k + 1)) (kb s)) := (by rw [H.out, ff_drop hk'] : R = match It.find (xss.getD k []) (kb s) with | some x => some x | none => Mg.ff (xss.drop (k + 1)) (kb s))
      generalize ps.getD k phz = P at *
      generalize gss.getD k [] = gs at *
      generalize xss.getD k [] = xs at *
      obtain ⟨qa, qn, qc⟩ := P
      simp only at y0 hq1 hin
      have j0 : (0 : Int) ≤ (k : Int) := by omega
      have j1 : (k : Int) < (n : Int) := by omega
      have j2 : IntKind.i64.wrap ((k : Int) + 1) = (k : Int) + 1 := by rw [IntKind.wrap_i64]; omega
      clear hmm hc hk' H
      cases hf : It.find xs (kb s) with
      | none =>
        have hsk := fun W (hW : Below W0.heap.size W0 W) => seek_no (c := qc) (by omega) (hin.1.below hW (Nat.le_refl _)) hup hf
        have H2 : Hid (R = Mg.ff (xss.drop (k + 1)) (kb s)) := (by rw [Hst.out, hf] : R = Mg.ff (xss.drop (k + 1)) (kb s))
        clear Hst hf hss hup hin
        go_wp2_with (go_at_call 27; go_must (refine (hsk _ hbel).mono ?_; rintro e w3 ⟨i3, rfl, hbel3⟩))
        go_roundw
        case rel => exact ⟨k + 1, by omega, by go_num, H2, hbel.trans (hbel3.mono hbel.size)⟩
        case measure => simp [intOf]; omega
      | some x =>
        obtain ⟨I, hI1, hI2, hI3⟩ := find_at hup hf
        have hsk := fun W (hW : Below W0.heap.size W0 W) => seek_yes (c := qc) (by omega) (hin.1.below hW (Nat.le_refl _)) hup hf hI3
        have H2 : Hid (R = some x) := (by rw [Hst.out, hf] : R = some x)
        have hIq : I < qn := by have := hin.1.len; omega
        obtain ⟨cb, co, rfl, hcc⟩ := hin.1.at (by omega)
        have hit := hin.1.item hIq
        rw [hI2] at hit
        have hxs := hss x (It.find_mem hf).1
        have hcp := fun (W : World) (hW : Below W0.heap.size W0 W) => mcopied_any (gs.getD I ihz) x W (hit.below hW (Nat.le_refl _)) hxs.2 (by rw [← kb_len, hit.key]; exact hxs.1)
        have C0 : Hid (∀ W, Below W0.heap.size W0 W → ICells W cb (co + I * 8) (gs.getD I ihz)) := (fun W hW => (hcc I hIq).below hW (Nat.le_refl _) : ∀ W, Below W0.heap.size W0 W → ICells W cb (co + I * 8) (gs.getD I ihz))
        have i0 : (0 : Int) ≤ (I : Int) := by omega
        have i1 : (I : Int) < (qn : Int) := by omega
        generalize gs.getD I ihz = q at *
        obtain ⟨key, dead, far, xa, xn, xc, ⟨p1, p2, p3, p4⟩⟩ := q
        simp only at hcp
        clear Hst hf hss hup hin hI1 hI2 hI3 hcc hit hxs
        go_wp2_with (first
          | (go_at_call 27; go_must (refine (hsk _ hbel).mono ?_; rintro e w3 ⟨rfl, hbel3⟩; have hb3 := hbel.trans (hbel3.mono hbel.size); obtain ⟨v0, v1, v2, v3, v4, v5, v6, v7⟩ := C0.out w3 hb3; simp only at v0 v1 v2 v3 v4 v5 v6 v7))
          | (go_at_call 28; go_must (refine (hcp _ hb3).mono ?_; rintro e w4 ⟨⟨k4, d4, f4, a4, n4, c4, ⟨t1, t2, t3, t4⟩⟩, rfl, o4, -, hbel4⟩; have hb4 := hb3.trans (hbel4.mono hb3.size); obtain ⟨hb5, hz5, ⟨x0, x1, x2, x3, x4, x5, x6, x7, xf⟩⟩ := HB.out w4 hb4; have xf0 := xf 0; have xf1 := xf 1; have xf2 := xf 2; have xf3 := xf 3; have xf4 := xf 4; have xf5 := xf 5; have xf6 := xf 6; have xf7 := xf 7; clear xf)))
        have hP := mg_some (show w.heap.size < w3.heap.size from Nat.lt_of_lt_of_le hB1.out hb3.size) H2.out o4 hb5
        unfold set8 at hP
        simp only at hP
        refine bodyPost_ret (v := .tuple #[.agg #[.string k4, .bool d4, .bool f4, .slice a4 n4 c4, .int .i64 t1, .int .i64 t2, .int .i64 t3, .int .u32 (t4 : Nat)], .bool true, .int .i64 0]) ?_ rfl hP
        simp [results, Try.results12, go_sem, x0, x1, x2, x3, x4, x5, x6, x7]
    · obtain rfl : k = n := by omega
      have H2 : Hid (R = none) := (by rw [H.out, List.drop_of_length_le (by rw [hll.out]; omega)]; rfl : R = none)
      obtain ⟨hb5, hz5, ⟨x0, x1, x2, x3, x4, x5, x6, x7, xf⟩⟩ := HB.out wr hbel
      have xf0 := xf 0
      have xf1 := xf 1
      have xf2 := xf 2
      have xf3 := xf 3
      have xf4 := xf 4
      have xf5 := xf 5
      have xf6 := xf 6
      have xf7 := xf 7
      clear H xf
      go_wp2
      have hP := mg_none H2.out hb5
      unfold set8 ihz at hP
      simp only [Po.zero] at hP
      refine bodyPost_ret (v := .tuple #[.agg #[.string ⟨#[]⟩, .bool false, .bool false, .slice none 0 0, .int .i64 0, .int .i64 0, .int .i64 0, .int .u32 0], .bool false, .int .i64 0]) ?_ rfl hP
      simp [results, Try.results12, go_sem, x0, x1, x2, x3, x4, x5, x6, x7]

set_option maxRecDepth 100000 in
set_option maxHeartbeats 1000000 in
theorem mget_no (a : Option Addr) (n c : Nat) (ps : List PH) (gss : List (List IH)) (xss : List (List It.I)) (s : ByteArray) (w : World) (hi : InP w a n ps gss xss) (hsz : ∀ i, i < n → (ps.getD i phz).n ≤ 100000) (hm : Mg.may xss = false) :
    Calls Try.prog 12 #[.slice a n c, .string s] w fun e w' => e = .returned (.tuple #[iv ihz, .bool false, .int .i64 1]) ∧ Below w.heap.size w w' := by
  have hb0 := below_alloc w (.cells #[.string ⟨#[]⟩, .bool false, .bool false, .slice none 0 0, .int .i64 0, .int .i64 0, .int .i64 0, .int .u32 0] 37)
  have hck := mcheck_any a n c ps gss xss _ (hi.below hb0 (Nat.le_refl _)) hsz
  rw [hm] at hck
  simp only [Bool.false_eq_true, if_false] at hck
  have HB : Hid (∀ W, Below (w.alloc (.cells #[.string ⟨#[]⟩, .bool false, .bool false, .slice none 0 0, .int .i64 0, .int .i64 0, .int .i64 0, .int .u32 0] 37)).heap.size (w.alloc (.cells #[.string ⟨#[]⟩, .bool false, .bool false, .slice none 0 0, .int .i64 0, .int .i64 0, .int .i64 0, .int .u32 0] 37)) W → Below w.heap.size w W ∧ w.heap.size < W.heap.size ∧ Eight W w.heap.size (.string ⟨#[]⟩) (.bool false) (.bool false) (.slice none 0 0) (.int .i64 0) (.int .i64 0) (.int .i64 0) (.int .u32 0)) := (fun W hW => ⟨hb0.trans (hW.mono hb0.size), Nat.lt_of_lt_of_le (by simp) hW.size, eight_of ((hW.block _ (by simp)).trans (heap_alloc_new w _))⟩ : _)
  clear hi hsz hm hb0
  go_enter Try.func12, Try.ntmps12
  go_wp2_with (go_at_call 22; go_must (refine hck.mono ?_; rintro e w1 ⟨rfl, hb1⟩; obtain ⟨hb5, hz5, ⟨x0, x1, x2, x3, x4, x5, x6, x7, xf⟩⟩ := HB.out w1 hb1; have xf0 := xf 0; have xf1 := xf 1; have xf2 := xf 2; have xf3 := xf 3; have xf4 := xf 4; have xf5 := xf 5; have xf6 := xf 6; have xf7 := xf 7; clear xf))
  have hP : Below w.heap.size w (set8 w1 w.heap.size ihz) := set8_below hb5 _ _ (Nat.le_refl _)
  unfold set8 ihz at hP
  simp only [Po.zero] at hP
  refine bodyPost_ret (v := .tuple #[.agg #[.string ⟨#[]⟩, .bool false, .bool false, .slice none 0 0, .int .i64 0, .int .i64 0, .int .i64 0, .int .u32 0], .bool false, .int .i64 1]) ?_ rfl ⟨rfl, hP⟩
  simp [results, Try.results12, go_sem, x0, x1, x2, x3, x4, x5, x6, x7]
end Go.Proofs.Ytchiilhdkbpboaa
