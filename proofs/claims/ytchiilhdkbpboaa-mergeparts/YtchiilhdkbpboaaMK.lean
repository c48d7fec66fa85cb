/- What the program's 'of each list what stands in a range', and Scan, do. -/
import Derived.Test.YtchiilhdkbpboaaMJ
namespace Go.Proofs.Ytchiilhdkbpboaa
open Go.RowKit

theorem part_set_one (cs rest : List Value) (j : Nat) (hcs : cs.length = j) (hr : 1 ≤ rest.length) (v0 : Value) : (cs ++ rest).set j v0 = (cs ++ [v0]) ++ rest.drop 1 := by
  rw [← hcs]
  match rest, hr with
  | r0 :: t, _ => simp
theorem part_one_left {cs rest : List Value} {j : Nat} (hcs : cs.length = j) (hr : 1 ≤ rest.length) : ∃ c0, (cs ++ rest)[j]? = some c0 := by
  rw [← hcs]
  match rest, hr with
  | r0 :: t, _ => exact ⟨r0, by simp⟩
theorem PartsAt.snoc {w : World} {ps : List PH} {gss : List (List IH)} {xss : List (List It.I)} (h : PartsAt w ps gss xss) {p : PH} {gs : List IH} {xs : List It.I} (hx : InI w p.a p.n p.c gs xs) : PartsAt w (ps ++ [p]) (gss ++ [gs]) (xss ++ [xs]) := by
  obtain ⟨h1, h2, h3⟩ := h
  refine ⟨by simp [h1], by simp [h2], fun i hi => ?_⟩
  rw [List.length_append, List.length_singleton] at hi
  rcases Nat.lt_or_ge i xss.length with h' | h'
  · have e1 : (ps ++ [p]).getD i phz = ps.getD i phz := by rw [List.getD_eq_getElem?_getD, List.getElem?_append_left (by omega), ← List.getD_eq_getElem?_getD]
    have e2 : (gss ++ [gs]).getD i [] = gss.getD i [] := by rw [List.getD_eq_getElem?_getD, List.getElem?_append_left (by omega), ← List.getD_eq_getElem?_getD]
    have e3 : (xss ++ [xs]).getD i [] = xss.getD i [] := by rw [List.getD_eq_getElem?_getD, List.getElem?_append_left (by omega), ← List.getD_eq_getElem?_getD]
    rw [e1, e2, e3]
    exact h3 i h'
  · obtain rfl : i = xss.length := by omega
    have e1 : (ps ++ [p]).getD xss.length phz = p := by rw [← h1]; simp
    have e2 : (gss ++ [gs]).getD xss.length [] = gs := by rw [← h2]; simp
    have e3 : (xss ++ [xs]).getD xss.length [] = xs := by simp
    rw [e1, e2, e3]
    exact hx
theorem PartsAt.nil (w : World) : PartsAt w [] [] [] := ⟨rfl, rfl, fun i hi => by simp at hi⟩
theorem win_take {lo hi : List Nat} {xss : List (List It.I)} {k : Nat} (hk : k < xss.length) : Mg.win lo hi (xss.take (k + 1)) = Mg.win lo hi (xss.take k) ++ [(xss.getD k []).filter (It.inside lo hi)] := by
  unfold Mg.win
  rw [List.take_add_one, List.getElem?_eq_getElem hk, List.map_append, List.getD_eq_getElem?_getD, List.getElem?_eq_getElem hk]
  rfl
/-- a slice of items cut at both ends -/
theorem InI.mid {w : World} {b off n c : Nat} {gs : List IH} {xs : List It.I} (h : InI w (some ⟨b, off, none⟩) n c gs xs) (k m : Nat) (hk : k ≤ m) (hm : m ≤ n) : InI w (some ⟨b, off + k * 8, none⟩) (m - k) (c - k) ((gs.take m).drop k) ((xs.take m).drop k) :=
  ⟨⟨(h.1.1.take m hm).drop k hk, (h.1.2.take m).drop k⟩, (fun h => by cases h), by have := h.2.2; omega⟩
theorem ini_zero {w : World} {gs : List IH} {xs : List It.I} (x : Addr) (c : Nat) (h1 : gs = []) (h2 : xs = []) : InI w (some x) 0 c gs xs := by
  subst h1; subst h2
  exact ⟨⟨⟨rfl, by omega, .inl rfl⟩, ItAll.nil _⟩, (fun h => by cases h), Nat.zero_le _⟩
theorem ini_none {w : World} {gs : List IH} {xs : List It.I} (a : Option Addr) (h1 : gs = []) (h2 : xs = []) : InI w a 0 0 gs xs := by
  subst h1; subst h2
  exact ⟨⟨⟨rfl, by omega, .inl rfl⟩, ItAll.nil _⟩, (fun _ => ⟨rfl, rfl⟩), Nat.le_refl _⟩
theorem srch_ex (s : List Nat) : ∀ {xs : List It.I}, It.Up xs → ∃ I, I ≤ xs.length ∧ It.Srch xs s I I
  | [], _ => ⟨0, Nat.le_refl _, (fun t ht => by omega), fun t _ ht => by simp at ht⟩
  | x :: l, h => by
    have h' := List.pairwise_cons.mp h
    cases hx : Na.lt x.1 s with
    | true =>
      obtain ⟨I, h1, h2, h3⟩ := srch_ex s h'.2
      refine ⟨I + 1, by simp; omega, fun t ht => ?_, fun t h4 h5 => ?_⟩
      · cases t with
        | zero => simpa using hx
        | succ t => simpa using h2 t (by omega)
      · cases t with
        | zero => omega
        | succ t => simpa using h3 t (by omega) (by simpa using h5)
    | false =>
      refine ⟨0, by simp, (fun t ht => by omega), fun t _ h5 => ?_⟩
      cases t with
      | zero => simpa using hx
      | succ t =>
        have h6 : t < l.length := by simpa using h5
        have h7 : Na.lt x.1 (l.getD t It.zero).1 = true := h'.1 _ (by rw [List.getD_eq_getElem?_getD, List.getElem?_eq_getElem h6]; exact List.getElem_mem _)
        have h8 : (x :: l).getD (t + 1) It.zero = l.getD t It.zero := by simp
        rw [h8]
        cases h9 : Na.lt (l.getD t It.zero).1 s with
        | false => rfl
        | true => rw [It.lt_trans h7 h9] at hx; cases hx
theorem srch_one {s : List Nat} {xs : List It.I} {I J : Nat} (hI : I ≤ xs.length) (hJ : J ≤ xs.length) (h1 : It.Srch xs s I I) (h2 : It.Srch xs s J J) : I = J := by
  rcases Nat.lt_trichotomy I J with h | h | h
  · have a := h2.1 I h
    rw [h1.2 I (Nat.le_refl _) (by omega)] at a
    cases a
  · exact h
  · have a := h1.1 J h
    rw [h2.2 J (Nat.le_refl _) (by omega)] at a
    cases a
/-- a place is told, and whether it is the key's -/
def SkAt (w : World) (I : Nat) (e : Ending) (w' : World) : Prop := ∃ f : Bool, e = .returned (.tuple #[.int .i64 (I : Nat), .bool f]) ∧ Below w.heap.size w w'
theorem mseek_at {a : Option Addr} {n c : Nat} {gs : List IH} {xs : List It.I} {s : ByteArray} {w : World} {I : Nat} (hn : n ≤ 1000000) (hi : ItRow w a n gs xs) (hp : It.Up xs) (hI : I ≤ xs.length) (hS : It.Srch xs (kb s) I I) :
    Calls Try.prog 27 #[.slice a n c, .string s] w (SkAt w I) := by
  refine (mseek_any a n c gs xs s w hn hi hp).mono ?_
  rintro e w' ⟨i, f, rfl, h1, h2, hb⟩
  obtain rfl : i = I := srch_one (by rw [hi.len]; exact h1.1) hI h2 hS
  exact ⟨f, rfl, hb⟩
/-- of each list what stands in a range, as it is told -/
def MWRes (w : World) (n : Nat) (L : List (List It.I)) (e : Ending) (w' : World) : Prop :=
  ∃ g ps gss, e = .returned (.slice (some ⟨g, 0, none⟩) n n) ∧ TRow 1 phe phz w' (some ⟨g, 0, none⟩) n ps ∧ PartsAt w ps gss L ∧ (∀ p ∈ ps, p.n ≤ 100000) ∧ Below w.heap.size w w'

set_option maxRecDepth 100000 in
set_option maxHeartbeats 4000000 in
theorem mwithin_any (a : Option Addr) (n c : Nat) (ps : List PH) (gss : List (List IH)) (xss : List (List It.I)) (lo hi : ByteArray) (w : World) (hi0 : InP w a n ps gss xss) (hn : n ≤ 1000) (hU : ∀ x ∈ xss, It.Up x) (hsz : ∀ i, i < n → (ps.getD i phz).n ≤ 100000) :
    Calls Try.prog 26 #[.slice a n c, .string lo, .string hi] w (MWRes w n (Mg.win (kb lo) (kb hi) xss)) := by
  have HP : Hid (InP w a n ps gss xss) := hi0
  have HU : Hid (∀ x ∈ xss, It.Up x) := hU
  have HZ : Hid (∀ i, i < n → (ps.getD i phz).n ≤ 100000) := hsz
  have hll : Hid (xss.length = n) := hi0.len
  clear hi0 hU hsz
  obtain ⟨i0, hi0, hz0, hz1, hz2⟩ := info_parts partE.info
  go_enter Try.func26, Try.ntmps26
  go_wp2_with (at_make; go_must (refine make_full _ rfl _ _ 22 rfl w.heap.size 25 i0 _ 1 Try.underlying22 hi0 hz0 hz1 .i64 .i64 n rfl rfl (by rw [hz2]; omega) (by unfold maxLen; omega) (Nat.le_refl _) ?_; intro w2 hmade hbel2))
  obtain ⟨g, hg⟩ : ∃ g, g = w.heap.size := ⟨_, rfl⟩
  rw [← hg] at hmade ⊢
  have hgB : w.heap.size ≤ g := by omega
  have Hg : Hid (g = w.heap.size) := hg
  clear hg hi0 hz0 hz1 hz2
  obtain ⟨rest0, hmade⟩ : ∃ r, w2.ownsRow w.heap.size 25 1 (.slice (some ⟨g, 0, none⟩) n n) n r := ⟨_, hmade.mono hgB⟩
  go_loopw [18] (fun i wr => ∃ (k : Nat) (qs : List PH) (hss : List (List IH)) (rest : List Value), k ≤ n ∧ i = .int .i64 k ∧ wr.ownsRow w.heap.size 25 1 (.slice (some ⟨g, 0, none⟩) n n) n (tcells phe qs ++ rest) ∧ Hid (PartsAt w qs hss (Mg.win (kb lo) (kb hi) (xss.take k))) ∧ Hid (qs.length = k) ∧ Hid (∀ p ∈ qs, p.n ≤ 100000) ∧ Below w.heap.size w wr) (fun i _ => n - (intOf i).toNat)
  case atStart => exact ⟨0, [], [], rest0, by omega, rfl, by simpa [tcells] using hmade, (PartsAt.nil w : PartsAt w [] [] (Mg.win (kb lo) (kb hi) (xss.take 0))), (rfl : ([] : List PH).length = 0), (fun p hp => (by cases hp) : ∀ p ∈ ([] : List PH), p.n ≤ 100000), hbel2⟩
  case round =>
    obtain ⟨k, qs, hss, rest, hk, rfl, hown, HQ, Hk, HK, hbel⟩ := hrel
    clear hmade hbel2
    by_cases hlt : k < n
    · obtain ⟨bb, off, rfl, hc⟩ := HP.out.1.part (by omega)
      have hk' : k < xss.length := by rw [hll.out]; exact hlt
      have y0 := (hbel.cell (p := ⟨bb, off + k, none⟩) (cell_lt (hc k hlt))).trans (hc k hlt)
      have hin : Hid (InI w (ps.getD k phz).a (ps.getD k phz).n (ps.getD k phz).c (gss.getD k []) (xss.getD k [])) := HP.out.2.2.2 k hk'
      have hup : It.Up (xss.getD k []) := HU.out _ (by rw [List.getD_eq_getElem?_getD, List.getElem?_eq_getElem hk']; exact List.getElem_mem _)
      have hq1 := HZ.out k hlt
      have HW : Hid (Mg.win (kb lo) (kb hi) (xss.take (k + 1)) = Mg.win (kb lo) (kb hi) (xss.take k) ++ [(xss.getD k []).filter (It.inside (kb lo) (kb hi))]) := win_take hk'
      generalize ps.getD k phz = P at *
      generalize gss.getD k [] = gs at *
      generalize xss.getD k [] = xs at *
      obtain ⟨qa, qn, qc⟩ := P
      simp only at y0 hq1 hin
      obtain ⟨I, hIl, hIs⟩ := srch_ex (kb lo) hup
      obtain ⟨J0, hJl, hJs⟩ := srch_ex (kb hi) hup
      have hsl := fun W (hW : Below w.heap.size w W) => mseek_at (c := qc) (by omega) (hin.out.1.below hW (Nat.le_refl _)) hup hIl hIs
      have hsh := fun W (hW : Below w.heap.size w W) => mseek_at (c := qc) (by omega) (hin.out.1.below hW (Nat.le_refl _)) hup hJl hJs
      have hxl0 := hin.out.1.len
      have HC : Hid (∀ J, J ≤ qn → (kb hi = [] → J = qn) → (kb hi ≠ [] → J = J0) → (xs.take J).drop (min I J) = xs.filter (It.inside (kb lo) (kb hi))) := (fun J h1 h2 h3 => Mg.cut_win (by omega) hIs (fun e => by rw [hxl0]; exact h2 e) (fun e => by rw [h3 e]; exact hJs) : ∀ J, J ≤ qn → (kb hi = [] → J = qn) → (kb hi ≠ [] → J = J0) → (xs.take J).drop (min I J) = xs.filter (It.inside (kb lo) (kb hi)))
      rw [hxl0] at hIl hJl
      clear hxl0 hIs hJs
      have hcsl : Hid ((tcells phe qs).length = k) := (by rw [tcells_length phE, Hk.out, Nat.mul_one] : (tcells phe qs).length = k)
      have hrl : Hid (1 ≤ rest.length) := (by have h1 := hown.1; rw [List.length_append, hcsl.out] at h1; omega : 1 ≤ rest.length)
      have hgl := (own_lt hown).1
      obtain ⟨c0, e0⟩ := part_one_left hcsl.out hrl.out
      have E0 : Hid ((tcells phe qs ++ rest)[k]? = some c0) := e0
      have j0 : (0 : Int) ≤ (k : Int) := by omega
      have j1 : (k : Int) < (n : Int) := by omega
      have j2 : IntKind.i64.wrap ((k : Int) + 1) = (k : Int) + 1 := by rw [IntKind.wrap_i64]; omega
      have HN : Hid (∀ (p : PH) (hs' : List IH), InI w p.a p.n p.c hs' (xs.filter (It.inside (kb lo) (kb hi))) → p.n ≤ 100000 → PartsAt w (qs ++ [p]) (hss ++ [hs']) (Mg.win (kb lo) (kb hi) (xss.take (k + 1))) ∧ (qs ++ [p]).length = k + 1 ∧ ∀ q ∈ qs ++ [p], q.n ≤ 100000) := (fun p hs' h1 h2 => ⟨by rw [HW.out]; exact HQ.out.snoc h1, by rw [List.length_append, Hk.out]; rfl, fun q hq => by
        rcases List.mem_append.mp hq with h | h
        · exact HK.out q h
        · rw [List.mem_singleton.mp h]; exact h2⟩ : ∀ (p : PH) (hs' : List IH), InI w p.a p.n p.c hs' (xs.filter (It.inside (kb lo) (kb hi))) → p.n ≤ 100000 → PartsAt w (qs ++ [p]) (hss ++ [hs']) (Mg.win (kb lo) (kb hi) (xss.take (k + 1))) ∧ (qs ++ [p]).length = k + 1 ∧ ∀ q ∈ qs ++ [p], q.n ≤ 100000)
      have HST : Hid (∀ (W : World) (p : PH), W.ownsRow w.heap.size 25 1 (.slice (some ⟨g, 0, none⟩) n n) n (tcells phe qs ++ rest) → Below w.heap.size w W → (W.setCell ⟨g, k, none⟩ (.slice p.a p.n p.c)).ownsRow w.heap.size 25 1 (.slice (some ⟨g, 0, none⟩) n n) n (tcells phe (qs ++ [p]) ++ rest.drop 1) ∧ Below w.heap.size w (W.setCell ⟨g, k, none⟩ (.slice p.a p.n p.c))) := (fun W p h1 h2 => by
        have h3 := own_store h1 k (.slice p.a p.n p.c)
        rw [part_set_one _ _ k hcsl.out hrl.out] at h3
        rw [show tcells phe qs ++ [.slice p.a p.n p.c] = tcells phe (qs ++ [p]) by rw [tcells_append]; rfl] at h3
        exact ⟨h3, h2.setCell hgB _⟩ : ∀ (W : World) (p : PH), W.ownsRow w.heap.size 25 1 (.slice (some ⟨g, 0, none⟩) n n) n (tcells phe qs ++ rest) → Below w.heap.size w W → (W.setCell ⟨g, k, none⟩ (.slice p.a p.n p.c)).ownsRow w.heap.size 25 1 (.slice (some ⟨g, 0, none⟩) n n) n (tcells phe (qs ++ [p]) ++ rest.drop 1) ∧ Below w.heap.size w (W.setCell ⟨g, k, none⟩ (.slice p.a p.n p.c)))
      clear HQ Hk HK HW hcsl hrl e0 hk' hc hup
      have hemp : hi.toList.isEmpty = decide (kb hi = []) := by rw [isEmpty_kb]; simp only [kb_nil]
      by_cases hk0 : kb hi = []
      · rw [decide_eq_true hk0] at hemp
        obtain ⟨M, hM⟩ : ∃ M, M = min I qn := ⟨_, rfl⟩
        have hMJ : M ≤ qn := by omega
        have m1 : min (I : Int) (qn : Int) = (M : Int) := by omega
        have HX : Hid ((xs.take qn).drop M = xs.filter (It.inside (kb lo) (kb hi))) := (by rw [hM]; exact HC.out qn (by omega) (fun h => rfl) (fun h => absurd hk0 h) : (xs.take qn).drop M = xs.filter (It.inside (kb lo) (kb hi)))
        have m2 : (0 : Int) ≤ (M : Int) := by omega
        have m3 : (M : Int) ≤ (qn : Int) := by omega
        have m4 : (qn : Int) ≤ (qc : Int) := by have := hin.out.2.2; omega
        have m5 : (M : Int) ≤ (qc : Int) := by omega
        clear hM HC
        rcases qa with _ | ⟨qb, qo, qsp⟩
        · have hnil := hin.out.2.1 rfl
          obtain ⟨rfl, rfl⟩ := hnil
          obtain rfl : M = 0 := by omega
          have hx0 : xs = [] := List.length_eq_zero_iff.mp hin.out.1.len
          have hN := HN.out ⟨none, 0, 0⟩ [] (ini_none none rfl (by rw [hx0]; rfl)) (by show 0 ≤ 100000; omega)
          have HNN : Hid (_) := hN
          clear hN hx0
          go_wp2_with (go_at_call 27; go_must (refine (hsl _ hbel).mono ?_; rintro e w3 ⟨f3, rfl, hbel3⟩; have hb3 := hbel.trans (hbel3.mono hbel.size); have ow3 := owns_below hown hbel3; have z0 := (own_cells ow3 E0.out).1; have f0 := (own_cells ow3 E0.out).2))
          have hS := HST.out w3 ⟨none, 0, 0⟩ ow3 hb3
          go_roundw
          case rel => exact ⟨k + 1, _, _, rest.drop 1, by omega, by go_num, hS.1, HNN.out.1, HNN.out.2.1, HNN.out.2.2, hS.2⟩
          case measure => simp [intOf]; omega
        · by_cases hcM : qc = M
          · have hq0 : qn = M := by have := hin.out.2.2; omega
            have hN := fun a => HN.out ⟨a, 0, 0⟩ [] (ini_none a rfl (by rw [← HX.out]; exact List.drop_of_length_le (by rw [List.length_take]; omega))) (by show 0 ≤ 100000; omega)
            have HNN : Hid (_) := hN
            clear hN
            have hcc := hin.out.2.2
            obtain rfl : qn = M := by omega
            obtain rfl : qn = qc := by omega
            obtain rfl : qn = I := by omega
            clear hcc hcM hq0 hMJ hIl hJl
            go_wp2_with (go_at_call 27; go_must (refine (hsl _ hbel).mono ?_; rintro e w3 ⟨f3, rfl, hbel3⟩; have hb3 := hbel.trans (hbel3.mono hbel.size); have ow3 := owns_below hown hbel3; have z0 := (own_cells ow3 E0.out).1; have f0 := (own_cells ow3 E0.out).2))
            have hS := HST.out w3 ⟨some ⟨qb, qo, qsp⟩, 0, 0⟩ ow3 hb3
            go_roundw
            case rel => exact ⟨k + 1, _, _, rest.drop 1, by omega, by go_num, hS.1, (HNN.out _).1, (HNN.out _).2.1, (HNN.out _).2.2, hS.2⟩
            case measure => simp [intOf]; omega
          · by_cases hq0 : qn = 0
            · obtain rfl : I = 0 := by omega
              obtain rfl : M = 0 := by omega
              subst hq0
              have hx0 : xs = [] := List.length_eq_zero_iff.mp hin.out.1.len
              have HNN : Hid (_) := HN.out ⟨some ⟨qb, qo, qsp⟩, 0, qc⟩ [] (ini_zero _ _ rfl (by rw [hx0]; rfl)) (by show 0 ≤ 100000; omega)
              clear hx0 hIl hJl hMJ
              go_wp2_with (go_at_call 27; go_must (refine (hsl _ hbel).mono ?_; rintro e w3 ⟨f3, rfl, hbel3⟩; have hb3 := hbel.trans (hbel3.mono hbel.size); have ow3 := owns_below hown hbel3; have z0 := (own_cells ow3 E0.out).1; have f0 := (own_cells ow3 E0.out).2))
              have hS := HST.out w3 ⟨some ⟨qb, qo, qsp⟩, 0, qc⟩ ow3 hb3
              go_roundw
              case rel => exact ⟨k + 1, _, _, rest.drop 1, by omega, by go_num, hS.1, HNN.out.1, HNN.out.2.1, HNN.out.2.2, hS.2⟩
              case measure => simp [intOf]; omega
            · obtain ⟨_, _, ee, _⟩ := hin.out.1.1.at (by omega)
              simp only [Option.some.injEq, Addr.mk.injEq] at ee
              obtain ⟨-, -, rfl⟩ := ee
              clear hq0
              have hN := HN.out ⟨some ⟨qb, qo + M * 8, none⟩, qn - M, qc - M⟩ _ (by rw [← HX.out]; exact hin.out.mid M qn hMJ (by omega)) (by show qn - M ≤ 100000; omega)
              have HNN : Hid (_) := hN
              clear hN
              go_wp2_with (go_at_call 27; go_must (refine (hsl _ hbel).mono ?_; rintro e w3 ⟨f3, rfl, hbel3⟩; have hb3 := hbel.trans (hbel3.mono hbel.size); have ow3 := owns_below hown hbel3; have z0 := (own_cells ow3 E0.out).1; have f0 := (own_cells ow3 E0.out).2))
              have hS := HST.out w3 ⟨some ⟨qb, qo + M * 8, none⟩, qn - M, qc - M⟩ ow3 hb3
              go_roundw
              case rel => exact ⟨k + 1, _, _, rest.drop 1, by omega, by go_num, hS.1, HNN.out.1, HNN.out.2.1, HNN.out.2.2, hS.2⟩
              case measure => simp [intOf]; omega
      · rw [decide_eq_false hk0] at hemp
        obtain ⟨M, hM⟩ : ∃ M, M = min I J0 := ⟨_, rfl⟩
        have hMJ : M ≤ J0 := by omega
        have m1 : min (I : Int) (J0 : Int) = (M : Int) := by omega
        have HX : Hid ((xs.take J0).drop M = xs.filter (It.inside (kb lo) (kb hi))) := (by rw [hM]; exact HC.out J0 (by omega) (fun h => absurd h hk0) (fun h => rfl) : (xs.take J0).drop M = xs.filter (It.inside (kb lo) (kb hi)))
        have m2 : (0 : Int) ≤ (M : Int) := by omega
        have m3 : (M : Int) ≤ (J0 : Int) := by omega
        have m4 : (J0 : Int) ≤ (qc : Int) := by have := hin.out.2.2; omega
        have m5 : (M : Int) ≤ (qc : Int) := by omega
        clear hM HC
        rcases qa with _ | ⟨qb, qo, qsp⟩
        · have hnil := hin.out.2.1 rfl
          obtain ⟨rfl, rfl⟩ := hnil
          obtain rfl : J0 = 0 := by omega
          obtain rfl : M = 0 := by omega
          have hx0 : xs = [] := List.length_eq_zero_iff.mp hin.out.1.len
          have hN := HN.out ⟨none, 0, 0⟩ [] (ini_none none rfl (by rw [hx0]; rfl)) (by show 0 ≤ 100000; omega)
          have HNN : Hid (_) := hN
          clear hN hx0
          go_wp2_with (first
            | (go_at_call 27; have hz := hb3; go_must (refine (hsh _ hb3).mono ?_; rintro e w4 ⟨f4, rfl, hbel4⟩; have hb4 := hb3.trans (hbel4.mono hb3.size); have ow4 := owns_below ow3 hbel4; have z1 := (own_cells ow4 E0.out).1; have f1 := (own_cells ow4 E0.out).2))
            | (go_at_call 27; go_must (refine (hsl _ hbel).mono ?_; rintro e w3 ⟨f3, rfl, hbel3⟩; have hb3 := hbel.trans (hbel3.mono hbel.size); have ow3 := owns_below hown hbel3; have z0 := (own_cells ow3 E0.out).1; have f0 := (own_cells ow3 E0.out).2)))
          have hS := HST.out w4 ⟨none, 0, 0⟩ ow4 hb4
          go_roundw
          case rel => exact ⟨k + 1, _, _, rest.drop 1, by omega, by go_num, hS.1, HNN.out.1, HNN.out.2.1, HNN.out.2.2, hS.2⟩
          case measure => simp [intOf]; omega
        · by_cases hcM : qc = M
          · have hq0 : J0 = M := by have := hin.out.2.2; omega
            have hN := fun a => HN.out ⟨a, 0, 0⟩ [] (ini_none a rfl (by rw [← HX.out]; exact List.drop_of_length_le (by rw [List.length_take]; omega))) (by show 0 ≤ 100000; omega)
            have HNN : Hid (_) := hN
            clear hN
            have hcc := hin.out.2.2
            obtain rfl : qn = M := by omega
            obtain rfl : qn = qc := by omega
            obtain rfl : qn = I := by omega
            obtain rfl : qn = J0 := by omega
            clear hcc hcM hq0 hMJ hIl hJl
            go_wp2_with (first
              | (go_at_call 27; have hz := hb3; go_must (refine (hsh _ hb3).mono ?_; rintro e w4 ⟨f4, rfl, hbel4⟩; have hb4 := hb3.trans (hbel4.mono hb3.size); have ow4 := owns_below ow3 hbel4; have z1 := (own_cells ow4 E0.out).1; have f1 := (own_cells ow4 E0.out).2))
              | (go_at_call 27; go_must (refine (hsl _ hbel).mono ?_; rintro e w3 ⟨f3, rfl, hbel3⟩; have hb3 := hbel.trans (hbel3.mono hbel.size); have ow3 := owns_below hown hbel3; have z0 := (own_cells ow3 E0.out).1; have f0 := (own_cells ow3 E0.out).2)))
            have hS := HST.out w4 ⟨some ⟨qb, qo, qsp⟩, 0, 0⟩ ow4 hb4
            go_roundw
            case rel => exact ⟨k + 1, _, _, rest.drop 1, by omega, by go_num, hS.1, (HNN.out _).1, (HNN.out _).2.1, (HNN.out _).2.2, hS.2⟩
            case measure => simp [intOf]; omega
          · by_cases hq0 : qn = 0
            · obtain rfl : I = 0 := by omega
              obtain rfl : M = 0 := by omega
              obtain rfl : J0 = 0 := by omega
              subst hq0
              have hx0 : xs = [] := List.length_eq_zero_iff.mp hin.out.1.len
              have HNN : Hid (_) := HN.out ⟨some ⟨qb, qo, qsp⟩, 0, qc⟩ [] (ini_zero _ _ rfl (by rw [hx0]; rfl)) (by show 0 ≤ 100000; omega)
              clear hx0 hIl hJl hMJ
              go_wp2_with (first
                | (go_at_call 27; have hz := hb3; go_must (refine (hsh _ hb3).mono ?_; rintro e w4 ⟨f4, rfl, hbel4⟩; have hb4 := hb3.trans (hbel4.mono hb3.size); have ow4 := owns_below ow3 hbel4; have z1 := (own_cells ow4 E0.out).1; have f1 := (own_cells ow4 E0.out).2))
                | (go_at_call 27; go_must (refine (hsl _ hbel).mono ?_; rintro e w3 ⟨f3, rfl, hbel3⟩; have hb3 := hbel.trans (hbel3.mono hbel.size); have ow3 := owns_below hown hbel3; have z0 := (own_cells ow3 E0.out).1; have f0 := (own_cells ow3 E0.out).2)))
              have hS := HST.out w4 ⟨some ⟨qb, qo, qsp⟩, 0, qc⟩ ow4 hb4
              go_roundw
              case rel => exact ⟨k + 1, _, _, rest.drop 1, by omega, by go_num, hS.1, HNN.out.1, HNN.out.2.1, HNN.out.2.2, hS.2⟩
              case measure => simp [intOf]; omega
            · obtain ⟨_, _, ee, _⟩ := hin.out.1.1.at (by omega)
              simp only [Option.some.injEq, Addr.mk.injEq] at ee
              obtain ⟨-, -, rfl⟩ := ee
              clear hq0
              have hN := HN.out ⟨some ⟨qb, qo + M * 8, none⟩, J0 - M, qc - M⟩ _ (by rw [← HX.out]; exact hin.out.mid M J0 hMJ (by omega)) (by show J0 - M ≤ 100000; omega)
              have HNN : Hid (_) := hN
              clear hN
              go_wp2_with (first
                | (go_at_call 27; have hz := hb3; go_must (refine (hsh _ hb3).mono ?_; rintro e w4 ⟨f4, rfl, hbel4⟩; have hb4 := hb3.trans (hbel4.mono hb3.size); have ow4 := owns_below ow3 hbel4; have z1 := (own_cells ow4 E0.out).1; have f1 := (own_cells ow4 E0.out).2))
                | (go_at_call 27; go_must (refine (hsl _ hbel).mono ?_; rintro e w3 ⟨f3, rfl, hbel3⟩; have hb3 := hbel.trans (hbel3.mono hbel.size); have ow3 := owns_below hown hbel3; have z0 := (own_cells ow3 E0.out).1; have f0 := (own_cells ow3 E0.out).2)))
              have hS := HST.out w4 ⟨some ⟨qb, qo + M * 8, none⟩, J0 - M, qc - M⟩ ow4 hb4
              go_roundw
              case rel => exact ⟨k + 1, _, _, rest.drop 1, by omega, by go_num, hS.1, HNN.out.1, HNN.out.2.1, HNN.out.2.2, hS.2⟩
              case measure => simp [intOf]; omega
    · obtain rfl : k = n := by omega
      have hrn : rest = [] := by
        have h1 := hown.1
        rw [List.length_append, tcells_length phE, Hk.out] at h1
        exact List.length_eq_zero_iff.mp (by omega)
      subst hrn
      rw [List.append_nil] at hown
      have HQ2 : Hid (PartsAt w qs hss (Mg.win (kb lo) (kb hi) xss)) := (by have h := HQ.out; rw [List.take_of_length_le (by rw [hll.out]; omega)] at h; exact h : PartsAt w qs hss (Mg.win (kb lo) (kb hi) xss))
      clear HQ
      go_wp2
      go_ret
      exact ⟨g, qs, hss, rfl, trow_of_owns phE hown (by omega) (by omega), HQ2.out, HK.out, hbel⟩
end Go.Proofs.Ytchiilhdkbpboaa
