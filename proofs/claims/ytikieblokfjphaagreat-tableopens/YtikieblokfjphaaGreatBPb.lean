/- What the program's getItem within a block does. -/
import Derived.Test.YtikieblokfjphaaGreatBPa
import Derived.Test.YtikieblokfjphaaGreatSB
import Derived.Test.YtikieblokfjphaaGreatMa
namespace Go.Proofs.YtikieblokfjphaaGreat
open Go.RowKit

/-- what getItem tells -/
def BIRes (w : World) (o : Option (It.I × Nat)) (e : Ending) (w' : World) : Prop :=
  (o = none ∧ e = .returned (.tuple #[iv ihz, .int .i64 0, .int .i64 2]) ∧ Below w.heap.size w w') ∨
  (∃ (h : IH) (x : It.I) (p : Nat), o = some (x, p) ∧ e = .returned (.tuple #[iv h, .int .i64 (p : Nat), .int .i64 0]) ∧ OwnIt w' w.heap.size h x ∧ Below w.heap.size w w')
theorem pone_none {last bs : List Nat} (h : Bl.pkey last bs = none) : Bl.pone last bs = none := by unfold Bl.pone; rw [h]
theorem pone_at {last bs key : List Nat} {p : Nat} (h : Bl.pkey last bs = some (key, p)) : Bl.pone last bs = if bs.length ≤ p then none
    else if bs.getD p 0 = 1 then some ((key, true, Ce.zero), p + 1)
    else if bs.getD p 0 = 0 then
      if (Ce.get (bs.drop (p + 1))).2 = 0 then none else some ((key, false, (Ce.get (bs.drop (p + 1))).1), p + 1 + (Ce.get (bs.drop (p + 1))).2)
    else none := by unfold Bl.pone; rw [h]
theorem bi_none {w w1 : World} (hb1 : Below w.heap.size w w1) : BIRes w none (.returned (.tuple #[iv ihz, .int .i64 0, .int .i64 2])) (set8 w1 w.heap.size ihz) := .inl ⟨rfl, rfl, set8_below hb1 _ _ (Nat.le_refl _)⟩
theorem bi_none_alloc {w w1 : World} (hb1 : Below w.heap.size w w1) (o : Obj) : BIRes w none (.returned (.tuple #[iv ihz, .int .i64 0, .int .i64 2])) ((set8 w1 w.heap.size ihz).alloc o) := .inl ⟨rfl, rfl, (set8_below hb1 _ _ (Nat.le_refl _)).alloc (set8_below hb1 _ _ (Nat.le_refl _)).size _⟩
theorem bi_dead {w w1 : World} (hb1 : Below w.heap.size w w1) {K : ByteArray} (hK : K.size ≤ maxLen) {p : Nat} {o : Option (It.I × Nat)} (ho : o = some ((kb K, true, Ce.zero), p)) : BIRes w o (.returned (.tuple #[iv ⟨K, true, false, none, 0, 0, Po.zero⟩, .int .i64 (p : Nat), .int .i64 0])) (set8 w1 w.heap.size ⟨K, true, false, none, 0, 0, Po.zero⟩) := .inr ⟨_, _, p, ho, rfl, own_dead _ _ rfl hK, set8_below hb1 _ _ (Nat.le_refl _)⟩
theorem bi_live {w w2 : World} (hb2 : Below w.heap.size w w2) {B : Nat} (hB : w.heap.size < B) {K : ByteArray} (hK : K.size ≤ maxLen) {f : Bool} {a : Option Addr} {vl c : Nat} {v : List Nat} {q : Po.P} {p : Nat} {o : Option (It.I × Nat)} (ho : o = some ((kb K, false, f, v, q), p)) (hvl : v.length = vl) (hsm : ∀ x ∈ v, x < 256) (hv : vl ≤ 1000) (hq : Po.Fits q)
    (hown : w2.ownsRow B 5 1 (.slice a vl c) vl (kcells .u8 v)) (ob : Obj) : BIRes w o (.returned (.tuple #[iv ⟨K, false, f, a, vl, c, q⟩, .int .i64 (p : Nat), .int .i64 0])) ((set8 w2 w.heap.size ⟨K, false, f, a, vl, c, q⟩).alloc ob) := by
  have h1 := owns_same (w' := set8 w2 w.heap.size ⟨K, false, f, a, vl, c, q⟩) hown (fun k hk _ => set8_other _ _ _ k (by omega))
  have h2 := owns_base (h1.alloc ob) (show w.heap.size ≤ B by omega)
  have h3 := row_of_owns h2 hsm (by omega)
  have h4 := set8_below hb2 w.heap.size ⟨K, false, f, a, vl, c, q⟩ (Nat.le_refl _)
  exact .inr ⟨_, _, p, ho, rfl, ⟨⟨rfl, rfl, rfl, rfl, h3.1, h3.2.1, h3.2.2, hq, hK⟩, h2⟩, h4.alloc h4.size _⟩

set_option maxRecDepth 100000 in
set_option maxHeartbeats 4000000 in
theorem bgetitem_any (a : Option Addr) (n c : Nat) (bs : List Nat) (s : ByteArray) (w : World) (hn : n ≤ 100000) (hlc : n ≤ c) (hsh : Shape a n c) (hr : Row .u8 w a n bs) (hs : s.size ≤ 64) :
    Calls Tryz.prog 67 #[.slice a n c, .string s] w (BIRes w (Bl.pone (kb s) bs)) := by
  have hlen : Hid (bs.length = n) := hr.1
  have hb0 := below_alloc w (.cells #[.string ⟨#[]⟩, .bool false, .bool false, .slice none 0 0, .int .i64 0, .int .i64 0, .int .i64 0, .int .u32 0] 40)
  have hky := bgetkey_any a n c bs s _ hn hlc hsh (hr.below hb0 (Nat.le_refl _)) hs
  have HB : Hid (∀ W, Below (w.alloc (.cells #[.string ⟨#[]⟩, .bool false, .bool false, .slice none 0 0, .int .i64 0, .int .i64 0, .int .i64 0, .int .u32 0] 40)).heap.size (w.alloc (.cells #[.string ⟨#[]⟩, .bool false, .bool false, .slice none 0 0, .int .i64 0, .int .i64 0, .int .i64 0, .int .u32 0] 40)) W → Below w.heap.size w W ∧ w.heap.size < W.heap.size ∧ Eight W w.heap.size (.string ⟨#[]⟩) (.bool false) (.bool false) (.slice none 0 0) (.int .i64 0) (.int .i64 0) (.int .i64 0) (.int .u32 0)) := (fun W hW => ⟨hb0.trans (hW.mono hb0.size), Nat.lt_of_lt_of_le (by simp) hW.size, eight_of ((hW.block _ (by simp)).trans (heap_alloc_new w _))⟩ : _)
  obtain ⟨G, hG⟩ : ∃ G, G = Bl.pone (kb s) bs := ⟨_, rfl⟩
  rw [← hG]
  cases hpk : Bl.pkey (kb s) bs with
  | none =>
    obtain rfl : G = none := by rw [hG, pone_none hpk]
    rw [hpk] at hky
    clear hpk hG
    go_enter Tryz.func67, Tryz.ntmps67
    go_wp2_with (go_at_call 87; go_must (refine hky.mono ?_; rintro e w1 (⟨_, z, hz, rfl, hbel1⟩ | ⟨K, p, h, _⟩); rotate_left; (cases h); obtain ⟨hb1, hz1, ⟨x0, x1, x2, x3, x4, x5, x6, x7, xf⟩⟩ := HB.out w1 hbel1; have xf0 := xf 0; have xf1 := xf 1; have xf2 := xf 2; have xf3 := xf 3; have xf4 := xf 4; have xf5 := xf 5; have xf6 := xf 6; have xf7 := xf 7; have dz : ((z : Int) == 0) = false := (by simp; omega)))
    have hP := bi_none hb1
    unfold set8 ihz at hP
    simp only [Po.zero] at hP
    refine bodyPost_ret (v := .tuple #[.agg #[.string ⟨#[]⟩, .bool false, .bool false, .slice none 0 0, .int .i64 0, .int .i64 0, .int .i64 0, .int .u32 0], .int .i64 0, .int .i64 2]) ?_ rfl hP
    simp [results, Tryz.results67, go_sem, x0, x1, x2, x3, x4, x5, x6, x7]
  | some kp =>
    obtain ⟨key, p⟩ := kp
    have hkp := Bl.pkey_some hr.2.2.1 hpk
    rw [hpk] at hky
    have HG : Hid (G = if n ≤ p then none
      else if bs.getD p 0 = 1 then some ((key, true, Ce.zero), p + 1)
      else if bs.getD p 0 = 0 then
        if (Ce.get (bs.drop (p + 1))).2 = 0 then none else some ((key, false, (Ce.get (bs.drop (p + 1))).1), p + 1 + (Ce.get (bs.drop (p + 1))).2)
      else none) := (by
        have e : G = _ := hG.trans (pone_at hpk)
        rw [hlen.out] at e
        exact e : G = if n ≤ p then none
      else if bs.getD p 0 = 1 then some ((key, true, Ce.zero), p + 1)
      else if bs.getD p 0 = 0 then
        if (Ce.get (bs.drop (p + 1))).2 = 0 then none else some ((key, false, (Ce.get (bs.drop (p + 1))).1), p + 1 + (Ce.get (bs.drop (p + 1))).2)
      else none)
    obtain ⟨hp1, hkl, -, -⟩ := hkp
    rw [hlen.out] at hp1
    have hky2 : Calls Tryz.prog 87 #[.slice a n c, .string s] (w.alloc (.cells #[.string ⟨#[]⟩, .bool false, .bool false, .slice none 0 0, .int .i64 0, .int .i64 0, .int .i64 0, .int .u32 0] 40)) fun e w' => ∃ K : ByteArray, Hid (kb K = key) ∧ K.size ≤ 64 ∧ e = .returned (.tuple #[.string K, .int .i64 (p : Nat), .int .i64 0]) ∧ Below (w.alloc (.cells #[.string ⟨#[]⟩, .bool false, .bool false, .slice none 0 0, .int .i64 0, .int .i64 0, .int .i64 0, .int .u32 0] 40)).heap.size (w.alloc (.cells #[.string ⟨#[]⟩, .bool false, .bool false, .slice none 0 0, .int .i64 0, .int .i64 0, .int .i64 0, .int .u32 0] 40)) w' := by
      refine hky.mono ?_
      rintro e w1 (⟨h, _⟩ | ⟨K, p', hK, rfl, hbel1⟩)
      · cases h
      · simp only [Option.some.injEq, Prod.mk.injEq] at hK
        obtain ⟨rfl, rfl⟩ := hK
        rw [kb_len] at hkl
        exact ⟨K, rfl, hkl, rfl, hbel1⟩
    clear hky hpk hG hkl
    by_cases hpn : n ≤ p
    · obtain rfl : p = n := by omega
      obtain rfl : G = none := by rw [HG.out, if_pos hpn]
      clear HG
      have dn : ((p : Int) == (p : Int)) = true := by simp
      go_enter Tryz.func67, Tryz.ntmps67
      go_wp2_with (go_at_call 87; go_must (refine hky2.mono ?_; rintro e w1 ⟨K, HK, hKs, rfl, hbel1⟩; obtain ⟨hb1, hz1, ⟨x0, x1, x2, x3, x4, x5, x6, x7, xf⟩⟩ := HB.out w1 hbel1; have xf0 := xf 0; have xf1 := xf 1; have xf2 := xf 2; have xf3 := xf 3; have xf4 := xf 4; have xf5 := xf 5; have xf6 := xf 6; have xf7 := xf 7))
      have hP := bi_none hb1
      unfold set8 ihz at hP
      simp only [Po.zero] at hP
      refine bodyPost_ret (v := .tuple #[.agg #[.string ⟨#[]⟩, .bool false, .bool false, .slice none 0 0, .int .i64 0, .int .i64 0, .int .i64 0, .int .u32 0], .int .i64 0, .int .i64 2]) ?_ rfl hP
      simp [results, Tryz.results67, go_sem, x0, x1, x2, x3, x4, x5, x6, x7]
    have dn : ((p : Int) == (n : Int)) = false := by simp; omega
    obtain ⟨b, off, rfl, -⟩ := hr.at (by omega)
    have hyc := fun W (hW : Below w.heap.size w W) => (hr.below hW (Nat.le_refl _)).cell p (by omega)
    have hys : bs.getD p 0 < 256 := by
      have hl : p < bs.length := by rw [hlen.out]; omega
      rw [show bs.getD p 0 = bs[p] by simp [hl]]
      exact hr.2.2.1 _ (List.getElem_mem hl)
    have HG2 : Hid (G = if bs.getD p 0 = 1 then some ((key, true, Ce.zero), p + 1)
      else if bs.getD p 0 = 0 then
        if (Ce.get (bs.drop (p + 1))).2 = 0 then none else some ((key, false, (Ce.get (bs.drop (p + 1))).1), p + 1 + (Ce.get (bs.drop (p + 1))).2)
      else none) := (by rw [HG.out, if_neg hpn] : G = if bs.getD p 0 = 1 then some ((key, true, Ce.zero), p + 1)
      else if bs.getD p 0 = 0 then
        if (Ce.get (bs.drop (p + 1))).2 = 0 then none else some ((key, false, (Ce.get (bs.drop (p + 1))).1), p + 1 + (Ce.get (bs.drop (p + 1))).2)
      else none)
    clear HG
    generalize bs.getD p 0 = y at *
    have i0 : (0 : Int) ≤ (p : Int) := by omega
    have i1 : (p : Int) < (n : Int) := by omega
    obtain ⟨P1, hP1⟩ : ∃ P1 : Nat, P1 = p + 1 := ⟨_, rfl⟩
    have i2 : IntKind.i64.wrap ((p : Int) + 1) = (P1 : Int) := by rw [IntKind.wrap_i64]; omega
    rw [← hP1] at HG2
    have l0 : P1 ≤ n := by omega
    clear hP1
    by_cases hy1 : y = 1
    · subst hy1
      have HG3 : Hid (G = some ((key, true, Ce.zero), P1)) := (by rw [HG2.out, if_pos rfl] : G = some ((key, true, Ce.zero), P1))
      clear HG2
      go_enter Tryz.func67, Tryz.ntmps67
      go_wp2_with (go_at_call 87; go_must (refine hky2.mono ?_; rintro e w1 ⟨K, HK, hKs, rfl, hbel1⟩; obtain ⟨hb1, hz1, ⟨x0, x1, x2, x3, x4, x5, x6, x7, xf⟩⟩ := HB.out w1 hbel1; have xf0 := xf 0; have xf1 := xf 1; have xf2 := xf 2; have xf3 := xf 3; have xf4 := xf 4; have xf5 := xf 5; have xf6 := xf 6; have xf7 := xf 7; have yc := hyc w1 hb1))
      have hP := bi_dead hb1 (K := K) (by unfold maxLen; omega) (p := P1) (o := G) (by rw [HG3.out, HK.out])
      unfold set8 at hP
      simp only [Po.zero] at hP
      refine bodyPost_ret (v := .tuple #[.agg #[.string K, .bool true, .bool false, .slice none 0 0, .int .i64 0, .int .i64 0, .int .i64 0, .int .u32 0], .int .i64 (P1 : Nat), .int .i64 0]) ?_ rfl hP
      simp [results, Tryz.results67, go_sem, x0, x1, x2, x3, x4, x5, x6, x7]
    have dy1 : ((y : Int) == 1) = false := by simp; omega
    by_cases hy0 : y = 0
    · subst hy0
      have HG3 : Hid (G = if (Ce.get (bs.drop P1)).2 = 0 then none else some ((key, false, (Ce.get (bs.drop P1)).1), P1 + (Ce.get (bs.drop P1)).2)) := (by rw [HG2.out, if_neg hy1, if_pos rfl] : G = if (Ce.get (bs.drop P1)).2 = 0 then none else some ((key, false, (Ce.get (bs.drop P1)).1), P1 + (Ce.get (bs.drop P1)).2))
      clear HG2
      have k1 : (0 : Int) ≤ (P1 : Int) := by omega
      have k2 : (P1 : Int) ≤ (n : Int) := by omega
      have k3 : (P1 : Int) ≤ (c : Int) := by omega
      have hle := Ce.get_le (bs.drop P1)
      rw [List.length_drop, hlen.out] at hle
      obtain ⟨hsm, hv32, hfit⟩ := Ce.get_small (bs := bs.drop P1) (fun x hx => hr.2.2.1 x (List.mem_of_mem_drop hx))
      have hcg : ∀ W, Below w.heap.size w W → ∀ (a' : Option Addr) (l' c' : Nat), (a' = some ⟨b, off + P1, none⟩ ∧ l' = n - P1 ∧ c' = c - P1) ∨ (l' = 0 ∧ n = P1) → Calls Tryz.prog 88 #[.slice a' l' c'] W (CGetOwn W (Ce.get (bs.drop P1))) := by
        intro W hW a' l' c' h
        rcases h with ⟨rfl, rfl, rfl⟩ | ⟨rfl, h⟩
        · exact cget_own _ _ _ _ W (by omega) (by omega) ((hr.below hW (Nat.le_refl _)).drop P1 l0)
        · have e : bs.drop P1 = [] := List.drop_of_length_le (by rw [hlen.out]; omega)
          rw [e]
          exact cget_own _ _ _ _ W (Nat.zero_le _) (by omega) (row_nil .u8 W a')
      generalize Ce.get (bs.drop P1) = R at *
      obtain ⟨⟨f, v, ⟨q1, q2, q3, q4⟩⟩, L⟩ := R
      simp only at hle hsm hv32 hfit HG3 hcg
      unfold CGetOwn at hcg
      simp only [cv] at hcg
      obtain ⟨vl, hvl⟩ : ∃ vl, v.length = vl := ⟨_, rfl⟩
      simp only [hvl] at hcg hv32
      have HV : Hid (v.length = vl) := hvl
      clear hvl
      by_cases hcp : c = P1
      · subst hcp
        obtain rfl : n = c := by omega
        obtain rfl : L = 0 := by omega
        obtain rfl : G = none := by rw [HG3.out, if_pos rfl]
        rw [code_zero] at hcg
        have hcg0 := fun W (hW : Below w.heap.size w W) (a' : Option Addr) (c' : Nat) => hcg W hW a' 0 c' (.inr ⟨rfl, rfl⟩)
        clear HG3 hcg
        go_enter Tryz.func67, Tryz.ntmps67
        go_wp2_with (first
          | (go_at_call 87; go_must (refine hky2.mono ?_; rintro e w1 ⟨K, HK, hKs, rfl, hbel1⟩; obtain ⟨hb1, hz1, ⟨x0, x1, x2, x3, x4, x5, x6, x7, xf⟩⟩ := HB.out w1 hbel1; have xf0 := xf 0; have xf1 := xf 1; have xf2 := xf 2; have xf3 := xf 3; have xf4 := xf 4; have xf5 := xf 5; have xf6 := xf 6; have xf7 := xf 7; have yc := hyc w1 hb1))
          | (go_at_call 88; go_must (refine (hcg0 _ hb1 _ _).mono ?_; rintro e w2 ⟨a2, c2, rfl, hr2, hnil2, hown2, hbel2⟩; obtain ⟨hb2, hz2, ⟨y0, y1, y2, y3, y4, y5, y6, y7, yf⟩⟩ := HB.out w2 (hbel1.trans (hbel2.mono hbel1.size)); have yf0 := yf 0; have yf1 := yf 1; have yf2 := yf 2; have yf3 := yf 3; have yf4 := yf 4; have yf5 := yf 5; have yf6 := yf 6; have yf7 := yf 7)))
        have hP := bi_none_alloc hb2 (.cells #[.bool f, .slice a2 vl c2, .int .i64 q1, .int .i64 q2, .int .i64 q3, .int .u32 (q4 : Nat)] 38)
        unfold set8 ihz at hP
        simp only [Po.zero] at hP
        refine bodyPost_ret (v := .tuple #[.agg #[.string ⟨#[]⟩, .bool false, .bool false, .slice none 0 0, .int .i64 0, .int .i64 0, .int .i64 0, .int .u32 0], .int .i64 0, .int .i64 2]) ?_ rfl hP
        simp [results, Tryz.results67, go_sem, y0, y1, y2, y3, y4, y5, y6, y7, hz2]
      · by_cases hL : L = 0
        · subst hL
          obtain rfl : G = none := by rw [HG3.out, if_pos rfl]
          rw [code_zero] at hcg
          clear HG3
          go_enter Tryz.func67, Tryz.ntmps67
          go_wp2_with (first
            | (go_at_call 87; go_must (refine hky2.mono ?_; rintro e w1 ⟨K, HK, hKs, rfl, hbel1⟩; obtain ⟨hb1, hz1, ⟨x0, x1, x2, x3, x4, x5, x6, x7, xf⟩⟩ := HB.out w1 hbel1; have xf0 := xf 0; have xf1 := xf 1; have xf2 := xf 2; have xf3 := xf 3; have xf4 := xf 4; have xf5 := xf 5; have xf6 := xf 6; have xf7 := xf 7; have yc := hyc w1 hb1))
            | (go_at_call 88; go_must (refine (hcg _ hb1 _ _ _ (.inl ⟨rfl, rfl, rfl⟩)).mono ?_; rintro e w2 ⟨a2, c2, rfl, hr2, hnil2, hown2, hbel2⟩; obtain ⟨hb2, hz2, ⟨y0, y1, y2, y3, y4, y5, y6, y7, yf⟩⟩ := HB.out w2 (hbel1.trans (hbel2.mono hbel1.size)); have yf0 := yf 0; have yf1 := yf 1; have yf2 := yf 2; have yf3 := yf 3; have yf4 := yf 4; have yf5 := yf 5; have yf6 := yf 6; have yf7 := yf 7)))
          have hP := bi_none_alloc hb2 (.cells #[.bool f, .slice a2 vl c2, .int .i64 q1, .int .i64 q2, .int .i64 q3, .int .u32 (q4 : Nat)] 38)
          unfold set8 ihz at hP
          simp only [Po.zero] at hP
          refine bodyPost_ret (v := .tuple #[.agg #[.string ⟨#[]⟩, .bool false, .bool false, .slice none 0 0, .int .i64 0, .int .i64 0, .int .i64 0, .int .u32 0], .int .i64 0, .int .i64 2]) ?_ rfl hP
          simp [results, Tryz.results67, go_sem, y0, y1, y2, y3, y4, y5, y6, y7, hz2]
        · have hcd : code L = 0 := by unfold code; rw [if_neg hL]
          rw [hcd] at hcg
          clear hcd
          obtain ⟨E, hE⟩ : ∃ E : Nat, E = P1 + L := ⟨_, rfl⟩
          have i3 : IntKind.i64.wrap ((P1 : Int) + (L : Int)) = (E : Int) := by rw [IntKind.wrap_i64]; omega
          have HG4 : Hid (G = some ((key, false, f, v, (q1, q2, q3, q4)), E)) := (by rw [HG3.out, if_neg hL, hE] : G = some ((key, false, f, v, (q1, q2, q3, q4)), E))
          clear HG3 hE
          go_enter Tryz.func67, Tryz.ntmps67
          go_wp2_with (first
            | (go_at_call 87; go_must (refine hky2.mono ?_; rintro e w1 ⟨K, HK, hKs, rfl, hbel1⟩; obtain ⟨hb1, hz1, ⟨x0, x1, x2, x3, x4, x5, x6, x7, xf⟩⟩ := HB.out w1 hbel1; have xf0 := xf 0; have xf1 := xf 1; have xf2 := xf 2; have xf3 := xf 3; have xf4 := xf 4; have xf5 := xf 5; have xf6 := xf 6; have xf7 := xf 7; have yc := hyc w1 hb1))
            | (go_at_call 88; go_must (refine (hcg _ hb1 _ _ _ (.inl ⟨rfl, rfl, rfl⟩)).mono ?_; rintro e w2 ⟨a2, c2, rfl, hr2, hnil2, hown2, hbel2⟩; obtain ⟨hb2, hz2, ⟨y0, y1, y2, y3, y4, y5, y6, y7, yf⟩⟩ := HB.out w2 (hbel1.trans (hbel2.mono hbel1.size)); have yf0 := yf 0; have yf1 := yf 1; have yf2 := yf 2; have yf3 := yf 3; have yf4 := yf 4; have yf5 := yf 5; have yf6 := yf 6; have yf7 := yf 7)))
          have hP := bi_live hb2 hz1 (K := K) (by unfold maxLen; omega) (p := E) (o := G) (by rw [HG4.out, HK.out]) HV.out hsm (by omega) hfit hown2 (.cells #[.bool f, .slice a2 vl c2, .int .i64 q1, .int .i64 q2, .int .i64 q3, .int .u32 (q4 : Nat)] 38)
          unfold set8 at hP
          simp only at hP
          refine bodyPost_ret (v := .tuple #[.agg #[.string K, .bool false, .bool f, .slice a2 vl c2, .int .i64 q1, .int .i64 q2, .int .i64 q3, .int .u32 (q4 : Nat)], .int .i64 (E : Nat), .int .i64 0]) ?_ rfl hP
          simp [results, Tryz.results67, go_sem, y0, y1, y2, y3, y4, y5, y6, y7, hz2]
    · obtain rfl : G = none := by rw [HG2.out, if_neg hy1, if_neg hy0]
      have dy0 : ((y : Int) == 0) = false := by simp; omega
      clear HG2
      go_enter Tryz.func67, Tryz.ntmps67
      go_wp2_with (go_at_call 87; go_must (refine hky2.mono ?_; rintro e w1 ⟨K, HK, hKs, rfl, hbel1⟩; obtain ⟨hb1, hz1, ⟨x0, x1, x2, x3, x4, x5, x6, x7, xf⟩⟩ := HB.out w1 hbel1; have xf0 := xf 0; have xf1 := xf 1; have xf2 := xf 2; have xf3 := xf 3; have xf4 := xf 4; have xf5 := xf 5; have xf6 := xf 6; have xf7 := xf 7; have yc := hyc w1 hb1))
      have hP := bi_none hb1
      unfold set8 ihz at hP
      simp only [Po.zero] at hP
      refine bodyPost_ret (v := .tuple #[.agg #[.string ⟨#[]⟩, .bool false, .bool false, .slice none 0 0, .int .i64 0, .int .i64 0, .int .i64 0, .int .u32 0], .int .i64 0, .int .i64 2]) ?_ rfl hP
      simp [results, Tryz.results67, go_sem, x0, x1, x2, x3, x4, x5, x6, x7]
end Go.Proofs.YtikieblokfjphaaGreat

/- What the program's Get of a block does. -/
namespace Go.Proofs.YtikieblokfjphaaGreat
open Go.RowKit

/-- eight cells at the front of what is left are written -/
theorem set_eight (cs rest : List Value) (j : Nat) (hcs : cs.length = j * 8) (hr : 8 ≤ rest.length) (v0 v1 v2 v3 v4 v5 v6 v7 : Value) :
    (((((((((cs ++ rest).set (j * 8) v0).set (j * 8 + 1) v1).set (j * 8 + 2) v2).set (j * 8 + 3) v3).set (j * 8 + 4) v4).set (j * 8 + 5) v5).set (j * 8 + 6) v6).set (j * 8 + 7) v7) = (cs ++ [v0, v1, v2, v3, v4, v5, v6, v7]) ++ rest.drop 8 := by
  rw [← hcs]
  obtain ⟨r0, r1, r2, r3, r4, r5, r6, r7, t, rfl⟩ : ∃ r0 r1 r2 r3 r4 r5 r6 r7 t, rest = r0 :: r1 :: r2 :: r3 :: r4 :: r5 :: r6 :: r7 :: t := by
    match rest, hr with
    | r0 :: r1 :: r2 :: r3 :: r4 :: r5 :: r6 :: r7 :: t, _ => exact ⟨r0, r1, r2, r3, r4, r5, r6, r7, t, rfl⟩
  simp [List.set_append_right]
theorem eight_left {cs rest : List Value} {j : Nat} (hcs : cs.length = j * 8) (hr : 8 ≤ rest.length) : ∃ c0 c1 c2 c3 c4 c5 c6 c7, (cs ++ rest)[j * 8]? = some c0 ∧ (cs ++ rest)[j * 8 + 1]? = some c1 ∧ (cs ++ rest)[j * 8 + 2]? = some c2 ∧ (cs ++ rest)[j * 8 + 3]? = some c3 ∧ (cs ++ rest)[j * 8 + 4]? = some c4 ∧ (cs ++ rest)[j * 8 + 5]? = some c5 ∧ (cs ++ rest)[j * 8 + 6]? = some c6 ∧ (cs ++ rest)[j * 8 + 7]? = some c7 := by
  rw [← hcs]
  match rest, hr with
  | r0 :: r1 :: r2 :: r3 :: r4 :: r5 :: r6 :: r7 :: t, _ => exact ⟨r0, r1, r2, r3, r4, r5, r6, r7, by simp, by simp, by simp, by simp, by simp, by simp, by simp, by simp⟩
theorem Bl.psc_step {N k : Nat} (hk : k < N) (bs : List Nat) (p : Nat) (last : List Nat) (O : List It.I) : Bl.psc (N - k) bs p last O = match Bl.pone last (bs.drop p) with | none => none | some (x, q) => Bl.psc (N - (k + 1)) bs (p + q) x.1 (O ++ [x]) := by
  rw [show N - k = (N - (k + 1)) + 1 by omega, Bl.psc]
  cases Bl.pone last (bs.drop p) <;> rfl
/-- items of the call's own are told, with a code -/
def BLOwn (w : World) (L : List It.I) (e : Ending) (w' : World) : Prop :=
  ∃ a c hs, e = .returned (.tuple #[.slice a L.length c, .int .i64 (Bl.err L : Nat)]) ∧ w'.ownsRow w.heap.size 40 8 (.slice a L.length c) L.length (tcells ih hs) ∧ ItHeld w' w.heap.size hs L ∧ Below w.heap.size w w'
theorem blown_nil {w W : World} {L : List It.I} (h : L = []) (hb : Below w.heap.size w W) : BLOwn w L (.returned (.tuple #[.slice none 0 0, .int .i64 2])) W := by
  subst h
  exact ⟨none, 0, [], rfl, ⟨rfl, .inl ⟨rfl, rfl⟩⟩, ItHeld.nil _ _, hb⟩
theorem blown_some {w W : World} {L l : List It.I} {a : Option Addr} {n c : Nat} {hs : List IH} (h : L = l) (hl : l.length = n) (h0 : 0 < n) (hown : W.ownsRow w.heap.size 40 8 (.slice a n c) n (tcells ih hs)) (hh : ItHeld W w.heap.size hs l) (hb : Below w.heap.size w W) : BLOwn w L (.returned (.tuple #[.slice a n c, .int .i64 0])) W := by
  subst h; subst hl
  have he : Bl.err L = 0 := by unfold Bl.err; rw [if_neg]; intro e; subst e; simp at h0
  refine ⟨a, c, hs, ?_, hown, hh, hb⟩
  rw [he]; rfl

set_option maxRecDepth 100000 in
set_option maxHeartbeats 8000000 in
theorem bget_loop (b off n c N A0 : Nat) (bs : List Nat) (w : World) (out : List It.I) (G : Option (List It.I × Nat))
    (hget : Calls Tryz.prog 66 #[.slice (some ⟨b, off, none⟩) n c] w fun e w' => e = .returned (.tuple #[.int .u64 (N : Nat), .int .i64 (A0 : Nat), .int .i64 0]) ∧ w' = w)
    (hAl : A0 ≤ n) (hlc : n ≤ c) (hbig : n ≤ 100000) (hN1 : 1 ≤ N) (hN : N ≤ 256) (hr : Row .u8 w (some ⟨b, off, none⟩) n bs)
    (HG : Hid (G = Bl.psc N bs A0 [] [])) (HO0 : Hid (G = none → out = [])) (HO1 : Hid (∀ l A, G = some (l, A) → out = if n ≤ A ∧ It.sorted l = true then l else [])) :
    Calls Tryz.prog 32 #[.slice (some ⟨b, off, none⟩) n c] w (BLOwn w out) := by
  have hlen : Hid (bs.length = n) := hr.1
  have hsm : Hid (∀ x ∈ bs, x < 256) := hr.2.2.1
  have hone : ∀ W a' z c' A (s : ByteArray), Below w.heap.size w W → A ≤ n → s.size ≤ 64 → z = n - A → ((z = 0 ∧ c' = 0) ∨ (a' = some ⟨b, off + A, none⟩ ∧ c' = c - A)) → Calls Tryz.prog 67 #[.slice a' z c', .string s] W (BIRes W (Bl.pone (kb s) (bs.drop A))) := fun W a' z c' A s hW hA hs hz hc => by
    have h1 := (hr.below hW (Nat.le_refl _)).drop A hA
    rcases hc with ⟨rfl, rfl⟩ | ⟨rfl, rfl⟩
    · exact bgetitem_any a' 0 0 _ s W (by omega) (Nat.le_refl _) (.inl ⟨rfl, rfl⟩) ⟨by rw [List.length_drop, hlen.out]; omega, by omega, h1.2.2.1, .inl rfl⟩ hs
    · subst hz
      exact bgetitem_any _ _ _ _ s W (by omega) (by omega) (.inr ⟨b, off + A, rfl, by omega⟩) h1 hs
  have hd1 : decide ((N : Int) < 1) = false := by simp; omega
  have hd1' : ¬ ((N : Int) < 1) := by omega
  have hd2 : decide (256 < (N : Int)) = false := by simp; omega
  have i1 : IntKind.i64.wrap (N : Int) = (N : Int) := by rw [IntKind.wrap_i64]; omega
  obtain ⟨i0, hi0, hz0, hz1, hz2⟩ := info_parts itemE.info
  clear hr
  go_enter Tryz.func32, Tryz.ntmps32
  go_wp2_with (first
    | (go_at_call 66; go_must (refine hget.mono ?_; rintro e w1 ⟨rfl, hw⟩; obtain rfl : w = w1 := hw.symm))
    | (at_make; go_must (refine make_full _ rfl _ _ 28 rfl w.heap.size 40 i0 _ 8 Tryz.underlying28 hi0 hz0 hz1 .i64 .i64 N rfl rfl (by rw [hz2]; omega) (by unfold maxLen; omega) (Nat.le_refl _) ?_; intro w2 hmade hbel2)))
  obtain ⟨g, hg⟩ : ∃ g, g = w.heap.size := ⟨_, rfl⟩
  rw [← hg] at hmade ⊢
  have hgB : w.heap.size ≤ g := by omega
  have Hg : Hid (g = w.heap.size) := hg
  clear hg hget hi0 hz0 hz1 hz2
  obtain ⟨rest0, hmade⟩ : ∃ r, w2.ownsRow w.heap.size 40 8 (.slice (some ⟨g, 0, none⟩) N N) N r := ⟨_, hmade.mono hgB⟩
  go_loopw [5, 8, 34] (fun at' la i wr => ∃ (j A : Nat) (last : ByteArray) (hs : List IH) (xs : List It.I) (rest : List Value), j ≤ N ∧ A ≤ n ∧ i = .int .i64 j ∧ at' = .int .i64 A ∧ la = .string last ∧ last.size ≤ 64 ∧ wr.ownsRow w.heap.size 40 8 (.slice (some ⟨g, 0, none⟩) N N) N (tcells ih hs ++ rest) ∧ Hid (ItHeld wr w.heap.size hs xs) ∧ Hid (xs.length = j) ∧ Below w.heap.size w wr ∧ Hid (G = Bl.psc (N - j) bs A (kb last) xs)) (fun _ _ i _ => N - (intOf i).toNat)
  case atStart => exact ⟨0, A0, ⟨#[]⟩, [], [], rest0, by omega, hAl, rfl, rfl, rfl, by decide, by simpa [tcells] using hmade, (ItHeld.nil _ _ : ItHeld _ _ [] []), (rfl : ([] : List It.I).length = 0), hbel2, (by rw [HG.out]; rfl : G = Bl.psc (N - 0) bs A0 (kb ⟨#[]⟩) [])⟩
  case round =>
    obtain ⟨j, A, last, hs, xs, rest, hj, hA, rfl, rfl, rfl, hls, hown, hheld, hlj, hbel, HS⟩ := hrel
    clear hmade hbel2
    by_cases hlt : j < N
    · have jj : (j : Int) < (N : Int) := by omega
      have j0 : (0 : Int) ≤ (j : Int) := by omega
      have j1 : IntKind.i64.wrap ((j : Int) + 1) = (j : Int) + 1 := by rw [IntKind.wrap_i64]; omega
      have k0 : (0 : Int) ≤ (A : Int) := by omega
      have jA : (A : Int) ≤ (n : Int) := by omega
      have jB : (A : Int) ≤ (c : Int) := by omega
      have jC : (n : Int) ≤ (c : Int) := by omega
      have HS1 : Hid (G = match Bl.pone (kb last) (bs.drop A) with | none => none | some (x, q) => Bl.psc (N - (j + 1)) bs (A + q) x.1 (xs ++ [x])) := (by rw [HS.out, Bl.psc_step hlt] : G = match Bl.pone (kb last) (bs.drop A) with | none => none | some (x, q) => Bl.psc (N - (j + 1)) bs (A + q) x.1 (xs ++ [x]))
      have ho := fun W a' z c' (h1 : Below w.heap.size w W) (h2 : z = n - A) h3 => hone W a' z c' A last h1 hA hls h2 h3
      clear HS hone
      have hps : Hid (∀ x q, Bl.pone (kb last) (bs.drop A) = some (x, q) → q ≤ n - A ∧ x.1.length ≤ 64 ∧ (0 < q)) := (fun x q h => by
        obtain ⟨h1, h2, h3, _⟩ := Bl.pone_some (fun y hy => hsm.out y (List.mem_of_mem_drop hy)) h
        rw [List.length_drop, hlen.out] at h1
        exact ⟨h1, h3, h2⟩ : ∀ x q, Bl.pone (kb last) (bs.drop A) = some (x, q) → q ≤ n - A ∧ x.1.length ≤ 64 ∧ (0 < q))
      generalize Bl.pone (kb last) (bs.drop A) = P at *
      cases P with
      | none =>
        have H : Hid (out = []) := HO0.out HS1.out
        have ho2 : ∀ W a' z c', Below w.heap.size w W → z = n - A → ((z = 0 ∧ c' = 0) ∨ (a' = some ⟨b, off + A, none⟩ ∧ c' = c - A)) → Calls Tryz.prog 67 #[.slice a' z c', .string last] W fun e w' => e = .returned (.tuple #[iv ihz, .int .i64 0, .int .i64 2]) ∧ Below W.heap.size W w' := fun W a' z c' h1 h2 h3 => (ho W a' z c' h1 h2 h3).mono fun e w' h => by
          rcases h with ⟨_, h4, h5⟩ | ⟨_, _, _, h4, _⟩
          · exact ⟨h4, h5⟩
          · cases h4
        simp only [ihz, Po.zero] at ho2
        clear HS1 HO0 HO1 HG hps ho
        by_cases hcA : c = A
        · subst hcA
          obtain rfl : n = c := by omega
          have ho3 := fun W a' (h : Below w.heap.size w W) => ho2 W a' 0 0 h (by omega) (.inl ⟨rfl, rfl⟩)
          clear ho2
          go_wp2_with (go_at_call 67; go_must (refine (ho3 _ _ hbel).mono ?_; rintro e w3 ⟨rfl, hbel3⟩))
          go_ret2
          exact blown_nil H.out ((hbel.trans (hbel3.mono hbel.size)).alloc (Nat.le_trans hbel.size hbel3.size) _)
        · have ho3 := fun W (h : Below w.heap.size w W) => ho2 W (some ⟨b, off + A, none⟩) (n - A) (c - A) h rfl (.inr ⟨rfl, rfl⟩)
          clear ho2
          go_wp2_with (go_at_call 67; go_must (refine (ho3 _ hbel).mono ?_; rintro e w3 ⟨rfl, hbel3⟩))
          go_ret2
          exact blown_nil H.out ((hbel.trans (hbel3.mono hbel.size)).alloc (Nat.le_trans hbel.size hbel3.size) _)
      | some xq =>
        obtain ⟨x, q⟩ := xq
        obtain ⟨hq1, hq2, hq3⟩ := hps.out x q rfl
        obtain ⟨A2, hA2⟩ : ∃ A2 : Nat, A2 = A + q := ⟨_, rfl⟩
        have jA2 : IntKind.i64.wrap ((A : Int) + (q : Int)) = (A2 : Int) := by rw [IntKind.wrap_i64]; omega
        have H : Hid (G = Bl.psc (N - (j + 1)) bs A2 x.1 (xs ++ [x])) := (by rw [HS1.out, hA2] : G = Bl.psc (N - (j + 1)) bs A2 x.1 (xs ++ [x]))
        have hA2l : A2 ≤ n := by omega
        have hcA : ¬ (c = A) := by omega
        have ho2 : ∀ W, Below w.heap.size w W → Calls Tryz.prog 67 #[.slice (some ⟨b, off + A, none⟩) (n - A) (c - A), .string last] W fun e w' => ∃ (K : ByteArray) (d f : Bool) (a : Option Addr) (n c : Nat) (q1 q2 q3 : Int) (q4 : Nat), e = .returned (.tuple #[.agg #[.string K, .bool d, .bool f, .slice a n c, .int .i64 q1, .int .i64 q2, .int .i64 q3, .int .u32 (q4 : Nat)], .int .i64 (q : Nat), .int .i64 0]) ∧ Hid (OwnIt w' W.heap.size ⟨K, d, f, a, n, c, (q1, q2, q3, q4)⟩ x) ∧ Below W.heap.size W w' := fun W h1 => (ho W _ _ _ h1 rfl (.inr ⟨rfl, rfl⟩)).mono fun e w' h => by
          rcases h with ⟨h4, _⟩ | ⟨⟨K, d, f, a, n, c, ⟨q1, q2, q3, q4⟩⟩, x', p', h4, h5, h6, h7⟩
          · cases h4
          · simp only [Option.some.injEq, Prod.mk.injEq] at h4
            obtain ⟨rfl, rfl⟩ := h4
            exact ⟨K, d, f, a, n, c, q1, q2, q3, q4, h5, h6, h7⟩
        have hhl : Hid (hs.length = j) := (hheld.out.1.trans hlj.out : hs.length = j)
        have hcsl : Hid ((tcells ih hs).length = j * 8) := (by rw [tcells_length ihE, hhl.out] : (tcells ih hs).length = j * 8)
        have hrl : Hid (8 ≤ rest.length) := (by have h1 := hown.1; rw [List.length_append, hcsl.out] at h1; omega : 8 ≤ rest.length)
        clear HS1 HO0 HO1 HG hA2 ho hps
        obtain ⟨d0, d1, d2, d3, d4, d5, d6, d7, e0, e1, e2, e3, e4, e5, e6, e7⟩ := eight_left hcsl.out hrl.out
        have hle0 : Hid (_) := (⟨e0, e1, e2, e3, e4, e5, e6, e7⟩ : _ ∧ _ ∧ _ ∧ _ ∧ _ ∧ _ ∧ _ ∧ _)
        clear e0 e1 e2 e3 e4 e5 e6 e7
        go_wp2_with (go_at_call 67; go_must (refine (ho2 _ hbel).mono ?_; rintro e w3 ⟨K3, d3, f3, a3, n3, c3, q1, q2, q3, q4, rfl, hit3, hbel3⟩; have hown3 := owns_below hown hbel3; have hgl := (own_lt hown3).1; have hn1 : ¬ (g = w3.heap.size) := (by omega); have hn2 : ¬ (w3.heap.size = g) := (by omega); have hb3 := hbel.trans (hbel3.mono hbel.size); obtain ⟨e0, e1, e2, e3, e4, e5, e6, e7⟩ := hle0.out; have y0 := (own_cells hown3 e0).1; have f0 := (own_cells hown3 e0).2; have y1 := (own_cells hown3 e1).1; have f1 := (own_cells hown3 e1).2; have y2 := (own_cells hown3 e2).1; have f2 := (own_cells hown3 e2).2; have y3 := (own_cells hown3 e3).1; have ff3 := (own_cells hown3 e3).2; have y4 := (own_cells hown3 e4).1; have f4 := (own_cells hown3 e4).2; have y5 := (own_cells hown3 e5).1; have f5 := (own_cells hown3 e5).2; have y6 := (own_cells hown3 e6).1; have f6 := (own_cells hown3 e6).2; have y7 := (own_cells hown3 e7).1; have f7 := (own_cells hown3 e7).2; clear e0 e1 e2 e3 e4 e5 e6 e7))
        have hown5 := (own_store (own_store (own_store (own_store (own_store (own_store (own_store (own_store hown3 (j * 8) (.string K3)) (j * 8 + 1) (.bool d3)) (j * 8 + 2) (.bool f3)) (j * 8 + 3) (.slice a3 n3 c3)) (j * 8 + 4) (.int .i64 q1)) (j * 8 + 5) (.int .i64 q2)) (j * 8 + 6) (.int .i64 q3)) (j * 8 + 7) (.int .u32 (q4 : Nat)))
        rw [set_eight _ rest j hcsl.out hrl.out] at hown5
        have hgr5 := (((((((((turned_set _ g (j * 8) (.string K3)).trans (turned_set _ g (j * 8 + 1) (.bool d3))).trans (turned_set _ g (j * 8 + 2) (.bool f3))).trans (turned_set _ g (j * 8 + 3) (.slice a3 n3 c3))).trans (turned_set _ g (j * 8 + 4) (.int .i64 q1))).trans (turned_set _ g (j * 8 + 5) (.int .i64 q2))).trans (turned_set _ g (j * 8 + 6) (.int .i64 q3))).trans (turned_set _ g (j * 8 + 7) (.int .u32 (q4 : Nat)))) : World.grownBy w3 _ _)
        have hx5 := OwnIt.grown hown3 (by decide) hgr5 (show OwnIt _ w.heap.size _ _ from ⟨hit3.out.1, owns_base hit3.out.2 hbel.size⟩)
        have hh5 := (hheld.out.below hbel3).grown hown3 (by decide) hgr5
        have hh6 := hh5.snoc hx5
        have hb4 := hb3.grown hgr5 hb3.size (fun k hk => by cases hk; exact hgB)
        have hb5 := hb4.alloc hb4.size (.cells #[.string K3, .bool d3, .bool f3, .slice a3 n3 c3, .int .i64 q1, .int .i64 q2, .int .i64 q3, .int .u32 (q4 : Nat)] 40)
        have hh7 : Hid (_) := hh6.below (below_alloc _ (.cells #[.string K3, .bool d3, .bool f3, .slice a3 n3 c3, .int .i64 q1, .int .i64 q2, .int .i64 q3, .int .u32 (q4 : Nat)] 40))
        have hl5 : Hid ((xs ++ [x]).length = j + 1) := (by rw [List.length_append, hlj.out]; rfl : (xs ++ [x]).length = j + 1)
        have hkK : Hid (kb K3 = x.1) := hit3.out.1.key
        have hK64 : K3.size ≤ 64 := by rw [← kb_len, hkK.out]; exact hq2
        have H2 : Hid (G = Bl.psc (N - (j + 1)) bs A2 (kb K3) (xs ++ [x])) := (by rw [H.out, hkK.out] : G = Bl.psc (N - (j + 1)) bs A2 (kb K3) (xs ++ [x]))
        rw [show tcells ih hs ++ [.string K3, .bool d3, .bool f3, .slice a3 n3 c3, .int .i64 q1, .int .i64 q2, .int .i64 q3, .int .u32 (q4 : Nat)] = tcells ih (hs ++ [⟨K3, d3, f3, a3, n3, c3, (q1, q2, q3, q4)⟩]) by rw [tcells_append]; rfl] at hown5
        have hown6 := hown5.alloc (.cells #[.string K3, .bool d3, .bool f3, .slice a3 n3 c3, .int .i64 q1, .int .i64 q2, .int .i64 q3, .int .u32 (q4 : Nat)] 40)
        clear hh5 hh6 hb4 hgr5 hx5 hown5
        go_roundw
        case rel => exact ⟨j + 1, A2, K3, _, _, rest.drop 8, by omega, hA2l, by go_num, rfl, rfl, hK64, hown6, hh7, hl5, hb5, H2⟩
        case measure => simp [intOf]; omega
    · obtain rfl : j = N := by omega
      have hrn : rest = [] := by
        have h1 := hown.1
        rw [List.length_append, tcells_length ihE, hheld.out.1, hlj.out] at h1
        exact List.length_eq_zero_iff.mp (by omega)
      subst hrn
      rw [List.append_nil] at hown
      have HE : Hid (out = if n ≤ A ∧ It.sorted xs = true then xs else []) := HO1.out xs A (by rw [HS.out, Nat.sub_self]; rfl)
      have hin : InI wr (some ⟨g, 0, none⟩) j j hs xs := ⟨⟨trow_of_owns ihE hown (by omega) (by omega), hheld.out.all⟩, (fun h => by cases h), Nat.le_refl _⟩
      have hso := tsorted_any _ j j hs xs wr (by omega) hin
      clear HO0 HO1 HG HS hone hin
      by_cases hAe : A = n
      · subst hAe
        have hdA : decide ((A : Int) < (A : Int)) = false := by simp
        have hdA' : ¬ ((A : Int) < (A : Int)) := by omega
        cases hB : It.sorted xs with
        | true =>
          have H : Hid (out = xs) := (by rw [HE.out, if_pos ⟨Nat.le_refl _, hB⟩] : out = xs)
          rw [hB] at hso
          clear HE hB
          go_wp2_with (go_at_call 24; go_must (refine hso.mono ?_; rintro e w3 ⟨rfl, hbel3⟩))
          go_ret2
          exact blown_some H.out hlj.out (by omega) (owns_below hown hbel3) (hheld.out.below hbel3) (hbel.trans (hbel3.mono hbel.size))
        | false =>
          have H : Hid (out = []) := (by rw [HE.out, if_neg (by rw [hB]; simp)] : out = [])
          rw [hB] at hso
          clear HE hB
          go_wp2_with (go_at_call 24; go_must (refine hso.mono ?_; rintro e w3 ⟨rfl, hbel3⟩))
          go_ret2
          exact blown_nil H.out (hbel.trans (hbel3.mono hbel.size))
      · have H : Hid (out = []) := (by rw [HE.out, if_neg (by omega)] : out = [])
        have hdA : decide ((A : Int) < (n : Int)) = true := by simp; omega
        clear HE
        go_wp2
        go_ret2
        exact blown_nil H.out hbel

set_option maxRecDepth 100000 in
set_option maxHeartbeats 4000000 in
theorem bget_own (a : Option Addr) (n c : Nat) (bs : List Nat) (w : World) (hbig : n ≤ 100000) (hlc : n ≤ c) (hr : Row .u8 w a n bs) :
    Calls Tryz.prog 32 #[.slice a n c] w (BLOwn w (Bl.get bs)) := by
  rw [Bl.pget_get hr.2.2.1]
  have hlen : bs.length = n := hr.1
  have hget := get_any a n c bs w hr
  have hle := Va.get_le (bs := bs)
  have hlt := Va.get_lt bs
  rw [hlen] at hle
  by_cases h0 : (Va.get bs).2 = 0 ∨ (Va.get bs).1 < 1 ∨ 256 < (Va.get bs).1
  · have H : Hid (Bl.pget bs = []) := (by unfold Bl.pget; rw [if_pos h0] : Bl.pget bs = [])
    generalize Bl.pget bs = out at *
    generalize Va.get bs = R at *
    obtain ⟨N, A⟩ := R
    simp only at h0 hget hle hlt
    clear hr hlen
    by_cases hA : A = 0
    · subst hA
      rw [code_zero] at hget
      clear h0
      go_enter Tryz.func32, Tryz.ntmps32
      go_wp2_with (go_at_call 66; go_must (refine hget.mono ?_; rintro e w1 ⟨rfl, hw⟩; obtain rfl : w = w1 := hw.symm))
      go_ret2
      exact blown_nil H.out (Below.refl _ _)
    · have hc : code A = 0 := by unfold code; rw [if_neg hA]
      rw [hc] at hget
      by_cases hN : N < 1
      · obtain rfl : N = 0 := by omega
        clear h0
        go_enter Tryz.func32, Tryz.ntmps32
        go_wp2_with (go_at_call 66; go_must (refine hget.mono ?_; rintro e w1 ⟨rfl, hw⟩; obtain rfl : w = w1 := hw.symm))
        go_ret2
        exact blown_nil H.out (Below.refl _ _)
      · have d1 : decide ((N : Int) < 1) = false := by simp; omega
        have d1' : ¬ ((N : Int) < 1) := by omega
        have d2 : decide (256 < (N : Int)) = true := by simp; omega
        clear h0
        go_enter Tryz.func32, Tryz.ntmps32
        go_wp2_with (go_at_call 66; go_must (refine hget.mono ?_; rintro e w1 ⟨rfl, hw⟩; obtain rfl : w = w1 := hw.symm))
        go_ret2
        exact blown_nil H.out (Below.refl _ _)
  · obtain ⟨b, off, rfl, -⟩ := hr.at (by omega)
    have hc : code (Va.get bs).2 = 0 := by unfold code; rw [if_neg (by omega)]
    rw [hc] at hget
    refine bget_loop b off n c (Va.get bs).1 (Va.get bs).2 bs w (Bl.pget bs) (Bl.psc (Va.get bs).1 bs (Va.get bs).2 [] []) hget hle hlc hbig (by omega) (by omega) hr rfl ?_ ?_
    · exact (fun h => by unfold Bl.pget; rw [if_neg h0, h] : Bl.psc (Va.get bs).1 bs (Va.get bs).2 [] [] = none → Bl.pget bs = [])
    · exact (fun l A h => by unfold Bl.pget; rw [if_neg h0, h, hlen] : ∀ l A, Bl.psc (Va.get bs).1 bs (Va.get bs).2 [] [] = some (l, A) → Bl.pget bs = if n ≤ A ∧ It.sorted l = true then l else [])
theorem blown_res {w w' : World} {L : List It.I} {e : Ending} (hL : L.length ≤ 256) (h : BLOwn w L e w') : BLRes w L e w' := by
  obtain ⟨a, c, hs, rfl, hown, hh, hb⟩ := h
  obtain ⟨a', c', e', h1, h2⟩ := t_shape hown
  simp only [Value.slice.injEq] at e'
  obtain ⟨rfl, -, rfl⟩ := e'
  exact ⟨a, c, hs, rfl, ⟨⟨trow_of_owns ihE hown (by omega) (by omega), hh.all⟩, h1, h2⟩, hb⟩
theorem Bl.get_len (bs : List Nat) : (Bl.get bs).length ≤ 256 := by
  by_cases h : Bl.get bs = []
  · rw [h]; exact Nat.zero_le _
  · have := (Bl.get_ok h).1
    simp only [Bl.may, Bool.and_eq_true, decide_eq_true_eq] at this
    exact this.1.2
theorem bget_any (a : Option Addr) (n c : Nat) (bs : List Nat) (w : World) (hbig : n ≤ 100000) (hlc : n ≤ c) (hr : Row .u8 w a n bs) :
    Calls Tryz.prog 32 #[.slice a n c] w (BLRes w (Bl.get bs)) := (bget_own a n c bs w hbig hlc hr).mono fun _ _ h => blown_res (Bl.get_len bs) h
end Go.Proofs.YtikieblokfjphaaGreat
