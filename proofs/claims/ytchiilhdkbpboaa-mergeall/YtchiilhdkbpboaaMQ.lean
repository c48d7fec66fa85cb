/- What the reference's May, All and From of lists do. -/
import Derived.Test.YtchiilhdkbpboaaPR
import Derived.Test.YtchiilhdkbpboaaSB
import Derived.Test.YtchiilhdkbpboaaTR11
import Derived.Test.YtchiilhdkbpboaaMgMath
import Derived.Deep.LoopGhost
namespace Go.Proofs.Ytchiilhdkbpboaa
open Go.RowKit

theorem drop_cons' {α : Type} (d : α) {l : List α} {k : Nat} (hk : k < l.length) : l.drop k = l.getD k d :: l.drop (k + 1) := by
  rw [List.drop_eq_getElem_cons hk, List.getD_eq_getElem?_getD, List.getElem?_eq_getElem hk]
  rfl
theorem mall_drop {l : List (List It.I)} {g : Nat} (hg : g < l.length) : Mg.mall (l.drop g) = (l.getD g []).foldl It.put (Mg.mall (l.drop (g + 1))) := by
  rw [drop_cons' [] hg, Mg.mall]
theorem fold_take {P xs : List It.I} {k : Nat} (hk : k < xs.length) : (xs.take (k + 1)).foldl It.put P = It.put ((xs.take k).foldl It.put P) (xs.getD k It.zero) := by
  rw [List.take_add_one, List.getElem?_eq_getElem hk, List.foldl_append, List.getD_eq_getElem?_getD, List.getElem?_eq_getElem hk]
  rfl
/-- some of the items are told -/
def Mg.ft (drop : Bool) (l : List It.I) : List It.I := l.filter fun x => !drop || !x.2.1

set_option maxRecDepth 100000 in
set_option maxHeartbeats 4000000 in
theorem rall_own (a : Option Addr) (n c : Nat) (ps : List PH) (gss : List (List IH)) (xss : List (List It.I)) (drop : Bool) (w0 w : World) (hi : InP w0 a n ps gss xss) (hw0 : Below w0.heap.size w0 w) (hn : n ≤ 110) (hsz : ∀ i, i < n → (ps.getD i phz).n ≤ 900) :
    Calls Try.prog 15 #[.slice a n c, .bool drop] w (PutRes w w0 (Mg.all xss drop)) := by
  have hll : Hid (xss.length = n) := hi.len
  have HI : Hid (InP w0 a n ps gss xss) := hi
  have HZ : Hid (∀ i, i < n → (ps.getD i phz).n ≤ 900) := hsz
  have hb0 := below_alloc w (.cells #[] 37)
  have e0 : wrap64 ((n : Int) - 1) = (n : Int) - 1 := by unfold wrap64; omega
  obtain ⟨R, hR⟩ : ∃ R, R = Mg.all xss drop := ⟨_, rfl⟩
  rw [← hR]
  have HR : Hid (R = Mg.ft drop (Mg.mall xss)) := (hR : R = Mg.ft drop (Mg.mall xss))
  clear hi hsz hR
  go_enter Try.func15, Try.ntmps15
  go_wp2_with fail
  go_loopg [5, 6] n (fun g s5 s6 wx => ∃ (z : Int) (m co : Nat) (ao : Option Addr) (O : List IH) (P : List It.I), z + 1 = (g : Int) ∧ g ≤ n ∧ m + g * 900 ≤ n * 900 ∧ s6 = .int .i64 z ∧ s5 = .slice ao m co ∧ Hid (P = Mg.mall (xss.drop g)) ∧ Hid (P.length = m) ∧ Hid (ItAll w0 O P) ∧ TRow 8 ih ihz wx ao m O ∧ Below w.heap.size w wx)
  case atStart => exact ⟨_, 0, 0, _, [], [], by omega, by omega, by omega, rfl, rfl, (by rw [List.drop_of_length_le (by rw [hll.out]; omega)]; rfl : ([] : List It.I) = Mg.mall (xss.drop n)), (rfl : ([] : List It.I).length = 0), ItAll.nil _, TRow.nil _ _, hb0⟩
  case round =>
    obtain ⟨z, m, co, ao, O, P, hz, hgn, hmg, rfl, rfl, HP, Hm, HA, hrow, hbel⟩ := hrel
    clear hb0 e0
    cases gk with
    | zero =>
      obtain rfl : z = -1 := by omega
      obtain ⟨wa, hwa⟩ : ∃ wa, wa = wr := ⟨_, rfl⟩
      subst hwa
      have hm0 := made_t (s := 8) (enc := ih) wa (B := wa.heap.size) (E := 37) (Nat.le_refl _) rfl
      have HE : Hid (R = [] ++ Mg.ft drop (P.drop 0)) := (by rw [HR.out]; have h := HP.out; rw [List.drop_zero] at h; rw [h]; rfl : R = [] ++ Mg.ft drop (P.drop 0))
      have hbz := below_alloc wa (.cells #[] 37)
      clear HP HR hz hgn
      go_wp2_with fail
      go_loopw [8, 9] (fun v8 v9 wy => ∃ (k m2 co2 : Nat) (ao2 : Option Addr) (hs : List IH) (D : List It.I), k ≤ m ∧ m2 ≤ k ∧ v9 = .int .i64 k ∧ v8 = .slice ao2 m2 co2 ∧ Hid (R = D ++ Mg.ft drop (P.drop k)) ∧ Hid (D.length = m2) ∧ Hid (ItAll w0 hs D) ∧ wy.ownsRow wa.heap.size 37 8 (.slice ao2 m2 co2) m2 (tcells ih hs) ∧ Below wa.heap.size wa wy) (fun _ i _ => m - (intOf i).toNat)
      case atStart => exact ⟨0, 0, 0, _, [], [], by omega, by omega, rfl, rfl, HE, (rfl : ([] : List It.I).length = 0), ItAll.nil _, hm0, hbz⟩
      case round =>
        obtain ⟨k, m2, co2, ao2, hs, D, hk, hmk, rfl, rfl, HE2, Hd, HAd, hown, hbel2⟩ := hrel
        clear hm0 HE hbz
        by_cases hlt : k < m
        · obtain ⟨ib, io, rfl, hci⟩ := hrow.items (by omega)
          have hkP : k < P.length := by rw [Hm.out]; exact hlt
          obtain ⟨v0, v1, v2, v3, v4, v5, v6, v7⟩ := (hci k hlt).below hbel2 (Nat.le_refl _)
          have hit : Hid (IsItem w0 (O.getD k ihz) (P.getD k It.zero)) := HA.out.2 k hkP
          have hdd : Hid ((O.getD k ihz).dead = (P.getD k It.zero).2.1) := hit.out.dead
          rw [drop_cons' It.zero hkP] at HE2
          generalize O.getD k ihz = q at *
          generalize P.getD k It.zero = y at *
          obtain ⟨key, dead, far, xa, xn, xc, ⟨p1, p2, p3, p4⟩⟩ := q
          simp only at v0 v1 v2 v3 v4 v5 v6 v7 hdd
          have i0 : (0 : Int) ≤ (k : Int) := by omega
          have i1 : (k : Int) < (m : Int) := by omega
          have i2 : IntKind.i64.wrap ((k : Int) + 1) = (k : Int) + 1 := by rw [IntKind.wrap_i64]; omega
          clear hci hkP
          by_cases hp : (!drop || !dead) = true
          · have HE3 : Hid (R = (D ++ [y]) ++ Mg.ft drop (P.drop (k + 1))) := (by rw [HE2.out]; unfold Mg.ft; rw [List.filter_cons, if_pos (by rw [← hdd.out]; exact hp), List.append_assoc]; rfl : R = (D ++ [y]) ++ Mg.ft drop (P.drop (k + 1)))
            have hd3 : Hid ((D ++ [y]).length = m2 + 1) := (by rw [List.length_append, Hd.out]; rfl : (D ++ [y]).length = m2 + 1)
            have HA3 : Hid (ItAll w0 (hs ++ [(⟨key, dead, far, xa, xn, xc, (p1, p2, p3, p4)⟩ : IH)]) (D ++ [y])) := HAd.out.snoc hit.out
            have hcase : drop = false ∨ (drop = true ∧ dead = false) := by revert hp; cases drop <;> cases dead <;> simp
            clear hp HE2 hdd
            rcases hcase with rfl | ⟨rfl, rfl⟩
            all_goals
              go_wp2_with (at_builtin; go_must (refine append_t itemE ihE (w0 := wa) (B := wa.heap.size) rfl (.tmp 53) (.tmp 58) rfl _ m2 hs rfl (hown.alloc _) _ 1 1 _ rfl (lit_item wr ⟨key, _, far, xa, xn, xc, (p1, p2, p3, p4)⟩ rfl) (fun h => by cases h) (by omega) (hbel2.alloc hbel2.size _) (hbel2.alloc hbel2.size _).size ?_; intro a9 c9 w9 hc9 hn9 _ ho9 hb9 _))
              go_roundw
              case rel => exact ⟨k + 1, m2 + 1, c9, a9, _, _, by omega, by omega, by go_num, rfl, HE3, hd3, HA3, ho9, hb9⟩
              case measure => simp [intOf]; omega
          · have hp' : (!drop || !dead) = false := by simpa using hp
            have HE3 : Hid (R = D ++ Mg.ft drop (P.drop (k + 1))) := (by rw [HE2.out]; unfold Mg.ft; rw [List.filter_cons, if_neg (by rw [← hdd.out]; exact hp)] : R = D ++ Mg.ft drop (P.drop (k + 1)))
            have hcase : drop = true ∧ dead = true := by revert hp'; cases drop <;> cases dead <;> simp
            clear hp hp' HE2 hdd
            obtain ⟨rfl, rfl⟩ := hcase
            go_wp2
            go_roundw
            case rel => exact ⟨k + 1, m2, co2, ao2, hs, D, by omega, by omega, by go_num, rfl, HE3, Hd, HAd, hown, hbel2⟩
            case measure => simp [intOf]; omega
        · obtain rfl : k = m := by omega
          have HF : Hid (R = D) := (by rw [HE2.out, List.drop_of_length_le (by rw [Hm.out]; omega)]; unfold Mg.ft; simp : R = D)
          have hfin : PutRes w w0 R (.returned (.slice ao2 m2 co2)) wr := by
            obtain ⟨a', c', e, g1, g2⟩ := t_shape hown
            simp only [Value.slice.injEq, true_and] at e
            obtain ⟨rfl, rfl⟩ := e
            have h1 := HF.out
            subst h1
            have h2 := Hd.out
            subst h2
            exact ⟨ao2, co2, hs, rfl, g2, g1, owns_base hown hbel.size, HAd.out, hbel.trans (hbel2.mono hbel.size)⟩
          clear HE2 HF
          go_wp2
          go_ret
          exact hfin
    | succ g =>
      obtain rfl : z = (g : Int) := by omega
      have hg : g < n := by omega
      have hg' : g < xss.length := by rw [hll.out]; exact hg
      obtain ⟨bb, off, rfl, hc⟩ := HI.out.1.part (by omega)
      have CL : Hid (∀ W, Below w.heap.size w W → W.cell? ⟨bb, off + g, none⟩ = some (.slice (ps.getD g phz).a (ps.getD g phz).n (ps.getD g phz).c)) := (fun W hW => ((hw0.trans (hW.mono hw0.size)).cell (p := ⟨bb, off + g, none⟩) (cell_lt (hc g hg))).trans (hc g hg) : ∀ W, Below w.heap.size w W → W.cell? ⟨bb, off + g, none⟩ = some (.slice (ps.getD g phz).a (ps.getD g phz).n (ps.getD g phz).c))
      have hin : Hid (InI w0 (ps.getD g phz).a (ps.getD g phz).n (ps.getD g phz).c (gss.getD g []) (xss.getD g [])) := HI.out.2.2.2 g hg'
      have hq := HZ.out g hg
      have HPs : Hid (Mg.mall (xss.drop g) = (xss.getD g []).foldl It.put P) := (by rw [HP.out, mall_drop hg'] : Mg.mall (xss.drop g) = (xss.getD g []).foldl It.put P)
      have g0 : (0 : Int) ≤ (g : Int) := by omega
      have g1 : (g : Int) < (n : Int) := by omega
      have g2 : IntKind.i64.wrap ((g : Int) - 1) = (g : Int) - 1 := by rw [IntKind.wrap_i64]; omega
      generalize ps.getD g phz = Q at *
      generalize gss.getD g [] = gs at *
      generalize xss.getD g [] = xs at *
      obtain ⟨qa, qn, qc⟩ := Q
      simp only at CL hin hq
      have hxl : Hid (xs.length = qn) := hin.out.1.len
      have HP0 : Hid (P = (xs.take 0).foldl It.put P) := (rfl : P = (xs.take 0).foldl It.put P)
      clear hc hg' HP
      go_wp2_with fail
      go_loopg [5, 7] qn (fun h s5 s7 wy => ∃ (k m2 co : Nat) (ao : Option Addr) (O : List IH) (P2 : List It.I), k + h = qn ∧ m2 ≤ m + k ∧ s7 = .int .i64 k ∧ s5 = .slice ao m2 co ∧ Hid (P2 = (xs.take k).foldl It.put P) ∧ Hid (P2.length = m2) ∧ Hid (ItAll w0 O P2) ∧ TRow 8 ih ihz wy ao m2 O ∧ Below w.heap.size w wy)
      case atStart => exact ⟨0, m, co, ao, O, P, by omega, by omega, rfl, rfl, HP0, Hm, HA, hrow, hbel⟩
      case round =>
        obtain ⟨k, m2, co2, ao2, O2, P2, hkh, hmk, rfl, rfl, HP2, Hm2, HA2, hrow2, hbel2⟩ := hrel
        have y0 := CL.out _ hbel2
        cases gk with
        | zero =>
          obtain rfl : k = qn := by omega
          have hkz : ¬ ((k : Int) < (k : Int)) := by omega
          have HP3 : Hid (P2 = Mg.mall (xss.drop g)) := (by rw [HP2.out, List.take_of_length_le (by rw [hxl.out]; omega), HPs.out] : P2 = Mg.mall (xss.drop g))
          clear HP2 HP0 hrow hbel HA Hm
          go_wp2
          go_roundg g
          case measure => omega
          case rel => exact ⟨_, m2, co2, ao2, O2, P2, by omega, by omega, by omega, rfl, rfl, HP3, Hm2, HA2, hrow2, hbel2⟩
        | succ h =>
          have hk : k < qn := by omega
          have hk' : k < xs.length := by rw [hxl.out]; exact hk
          obtain ⟨ib, io, rfl, hci⟩ := hin.out.1.at (by omega)
          obtain ⟨v0, v1, v2, v3, v4, v5, v6, v7⟩ := (hci k hk).below (hw0.trans (hbel2.mono hw0.size)) (Nat.le_refl _)
          have hit := hin.out.1.item hk
          have HP3 : Hid (It.put P2 (xs.getD k It.zero) = (xs.take (k + 1)).foldl It.put P) := (by rw [HP2.out, fold_take hk'] : It.put P2 (xs.getD k It.zero) = (xs.take (k + 1)).foldl It.put P)
          have hln : Hid ((It.put P2 (xs.getD k It.zero)).length ≤ m2 + 1) := (by have := It.putGo_len (xs.getD k It.zero) false P2; rw [Hm2.out] at this; exact this : (It.put P2 (xs.getD k It.zero)).length ≤ m2 + 1)
          have hput := iput_any w0 ao2 m2 co2 O2 P2 (gs.getD k ihz) (xs.getD k It.zero) wr (by omega) hrow2 HA2.out hit
          generalize gs.getD k ihz = q at *
          generalize xs.getD k It.zero = y at *
          generalize It.put P2 y = P3 at *
          obtain ⟨key, dead, far, xa, xn, xc, ⟨p1, p2, p3, p4⟩⟩ := q
          simp only at v0 v1 v2 v3 v4 v5 v6 v7 hput
          have i0 : (0 : Int) ≤ (k : Int) := by omega
          have i1 : (k : Int) < (qn : Int) := by omega
          have i2 : IntKind.i64.wrap ((k : Int) + 1) = (k : Int) + 1 := by rw [IntKind.wrap_i64]; omega
          clear hci hk' hit HP2 HP0 hrow hbel HA Hm
          go_wp2_with (go_at_call 29; go_must (refine hput.mono ?_; rintro e w3 ⟨a3, c3, hs3, rfl, hc3, hn3, hown3, HA3, hb3⟩; have hw3 := hbel2.trans (hb3.mono hbel2.size)))
          go_roundg h
          case measure => omega
          case rel => exact ⟨k + 1, _, c3, a3, hs3, P3, by omega, by have := hln.out; omega, by go_num, rfl, HP3, (rfl : P3.length = P3.length), HA3, trow_of_owns ihE hown3 (by omega) (by have := hln.out; omega), hw3⟩
theorem mall_len (K : Nat) : ∀ {l : List (List It.I)}, (∀ a ∈ l, a.length ≤ K) → (Mg.mall l).length ≤ l.length * K
  | [], _ => by simp [Mg.mall]
  | a :: l, h => by
    have h1 := It.all_len a (Mg.mall l)
    have h2 := mall_len K (fun b hb => h b (List.mem_cons_of_mem a hb))
    have h3 := h a (by simp)
    rw [Mg.mall, List.length_cons, Nat.succ_mul]
    omega
theorem mg_length {l : List (List It.I)} {K : Nat} (hK : ∀ a ∈ l, a.length ≤ K) (d : Bool) : (Mg.all l d).length ≤ l.length * K := by
  have h1 : (Mg.all l d).length ≤ (Mg.mall l).length := by unfold Mg.all; exact List.length_filter_le _ _
  exact Nat.le_trans h1 (mall_len K hK)
theorem parts_len {w : World} {a : Option Addr} {n K : Nat} {ps : List PH} {gss : List (List IH)} {xss : List (List It.I)} (h : InP w a n ps gss xss) (hK : ∀ i, i < n → (ps.getD i phz).n ≤ K) : ∀ x ∈ xss, x.length ≤ K := by
  intro x hx
  obtain ⟨i, hi, rfl⟩ := List.getElem_of_mem hx
  have h1 := h.2.2.2 i hi
  rw [h.len] at hi
  have h2 := hK i hi
  have h3 := h1.1.len
  rw [List.getD_eq_getElem?_getD, List.getElem?_eq_getElem (by rw [h.len]; exact hi)] at h3
  simp only [Option.getD_some] at h3
  omega
theorem rall_any (a : Option Addr) (n c : Nat) (ps : List PH) (gss : List (List IH)) (xss : List (List It.I)) (drop : Bool) (w0 w : World) (hi : InP w0 a n ps gss xss) (hw0 : Below w0.heap.size w0 w) (hn : n ≤ 110) (hsz : ∀ i, i < n → (ps.getD i phz).n ≤ 900) :
    Calls Try.prog 15 #[.slice a n c, .bool drop] w (RowRes w w0 (Mg.all xss drop)) := by
  have hl := mg_length (parts_len hi hsz) drop
  rw [hi.len] at hl
  refine (rall_own a n c ps gss xss drop w0 w hi hw0 hn hsz).mono ?_
  rintro e w' ⟨a', c', hs, h1, h2, h3, h4, h5, h6⟩
  exact ⟨a', c', hs, h1, h2, h3, trow_of_owns ihE h4 (by omega) (by omega), h5, h6⟩
end Go.Proofs.Ytchiilhdkbpboaa
