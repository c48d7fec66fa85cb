/- The reference of rosters: moved and kept, where the new one goes to the end; fresh, place. -/
import Derived.Test.YtmodogmjfbcddaaGreatRYa
import Derived.Deep.RegionLawGrows
namespace Go.Proofs.YtmodogmjfbcddaaGreat
open Go.RowKit

variable {α : Type} {s : Nat} {enc : α → List Value} {d : α}
theorem step_tfull {T E : TypeId} {bytes : Nat} {z : Value} (he : Elem T E s bytes z) (hE : Enc s enc) {w : World} {ops : Array Oper} {o : Oper} {a : Act} {K : Act → World → Prop} {Q : Exit → Act → World → Prop} {F : Prop} (hgd : o.guard = none) (sl x : Operand)
    (ho : o.op = .call { callee := .builtin .append, args := #[sl, x], argTypes := #[T, T] })
    (ao : Option Addr) (n : Nat) (xs : List α) (hs : a.eval sl = .slice ao n n) (hnone : ao = none → n = 0) (hr0 : TRow s enc d w ao n xs)
    (ad : Addr) (c : Nat) (p : α) (hx : a.eval x = .slice (some ad) 1 c) (hr : TRow s enc d w (some ad) 1 [p]) (hn : n ≤ 100000)
    (h : ∀ g' c' w', n + 1 ≤ c' → w'.ownsRow w.heap.size E s (.slice g' (n + 1) c') (n + 1) (tcells enc (xs ++ [p])) → Below w.heap.size w w' → K (a.put o.dst (.slice g' (n + 1) c')) w') :
    if Region.wanted o (yielded ops a.tmps) = true then Oper.wp Tryz.prog o a w K Q else F := by
  obtain ⟨i0, hi, hz0, hz1, hz2⟩ := info_parts he.info
  refine step_append_grows hgd sl x T ho E i0 _ s bytes he.und hi hz0 hz1 hz2 he.zero he.pos ao n n (tcells enc xs) hs (fun e => ⟨hnone e, hnone e⟩) (by rw [tcells_length hE, hr0.1]) (fun b hb j u hj => TRow.cells hE he.pos (hb ▸ hr0) j u hj) ad 1 c (tcells enc [p]) hx (by rw [tcells_length hE]; rfl) (fun j u hj => TRow.cells hE he.pos hr j u hj) (tcells_one hE [p]) (by omega) (by unfold maxLen; omega) (by have h1 := he.small; have h2 := Nat.mul_le_mul (show n + 1 ≤ 100001 by omega) h1; omega) ?_
  intro v' w' hown' hg
  obtain ⟨g', c', rfl, h1, h2⟩ := t_shape hown'
  exact h _ c' w' h2 (by rw [tcells_append]; exact hown') (((Below.refl _ _).grown hg (Nat.le_refl _) (fun k h => by cases h)))

set_option maxRecDepth 100000 in
set_option maxHeartbeats 4000000 in
theorem rmoved_end (a : Option Addr) (n c : Nat) (l : List (Int × Int)) (x y : Int) (w : World) (hn : n ≤ 1000) (hnc : n ≤ c) (hr : MRow w a n l) (hz : a = none → n = 0 ∧ c = 0) (ha0 : n = 0 → a = none) (hlast : ∀ m ∈ l, m.1 < x) :
    Calls Tryz.prog 84 #[.slice a n c, .agg #[.int .i64 x, .int .i64 y]] w fun e w' => ∃ g d, e = .returned (.slice g (n + 1) d) ∧ w'.ownsRow w.heap.size 53 2 (.slice g (n + 1) d) (n + 1) (tcells me (l ++ [(x, y)])) ∧ Below w.heap.size w w' := by
  obtain ⟨U, hU⟩ : ∃ U, U = w.alloc (.cells #[.int .i64 x, .int .i64 y] 53) := ⟨_, rfl⟩
  have hbU : Below w.heap.size w U := by rw [hU]; exact below_alloc _ _
  have e0 : U.heap[w.heap.size]? = some (.cells #[.int .i64 x, .int .i64 y] 53 (0, 0)) := by rw [hU]; exact heap_alloc_new _ _
  have HV : Hid (∀ W, Below U.heap.size U W → (W.cell? ⟨w.heap.size, 0, none⟩ = some (.int .i64 x) ∧ W.cell? ⟨w.heap.size, 1, none⟩ = some (.int .i64 y))) := (fun W hb => by
    have a := (blkc ((hb.block _ (ob_ltB e0)).trans e0)).1
    exact ⟨a 0, a 1⟩ : ∀ W, _ → _)
  have HR : Hid (∀ W, Below U.heap.size U W → MRow W a n l) := (fun W hb => hr.below (hbU.trans (hb.mono hbU.size)) (Nat.le_refl _) : ∀ W, _ → _)
  have HL : Hid (∀ m ∈ l, m.1 < x) := hlast
  have HN : Hid (l.length = n) := hr.1
  have HU : Hid (Below w.heap.size w U) := hbU
  have hUe : w.alloc (.cells #[.int .i64 x, .int .i64 y] 53) = U := hU.symm
  clear hU hbU e0 hlast
  have last : ∀ W, Below U.heap.size U W → (n = 0 ∨ ∃ (K : Nat) (b off : Nat) (x' y' : Int), n = K + 1 ∧ a = some ⟨b, off, none⟩ ∧ x' < x ∧ W.cell? ⟨b, off + K * 2, none⟩ = some (.int .i64 x') ∧ W.cell? ⟨b, off + K * 2 + 1, none⟩ = some (.int .i64 y')) := fun W hb => by
    rcases Nat.eq_zero_or_pos n with h0 | h0
    · exact .inl h0
    · obtain ⟨b, off, x', y', rfl, hx, q0, q1⟩ := mget (HR.out W hb) (Below.refl _ _) (show n - 1 < n by omega)
      refine .inr ⟨n - 1, b, off, x', y', by omega, rfl, ?_, q0, q1⟩
      have hm := HL.out (l.getD (n - 1) (0, 0)) (by simp [show n - 1 < l.length by rw [HN.out]; omega])
      rw [hx.out] at hm
      exact hm
  have HLA : Hid (∀ W, Below U.heap.size U W → _) := last
  clear last hr
  go_enter Tryz.func84, Tryz.ntmps84
  go_wp2
  clear hUe
  go_loopw [5] (fun iv wr => iv = .int .i64 (n : Nat) ∧ Hid (Below U.heap.size U wr)) (fun _ _ => 0)
  case atStart => exact ⟨rfl, (Below.refl _ _ : Below _ _ _)⟩
  case round =>
    obtain ⟨rfl, HB⟩ := hrel
    obtain ⟨p0, p1⟩ := HV.out wr HB.out
    rcases HLA.out wr HB.out with h0 | ⟨K, b, off, x', y', hk, rfl, hkey, q0, q1⟩
    · subst h0
      obtain rfl := ha0 rfl
      obtain ⟨_, rfl⟩ := hz rfl
      have dk : decide ((0 : Int) < ((0 : Nat) : Int)) = false := by decide
      go_wp2_with fail
      go_quiet (fail)
      go_wp2_with fail
      have hbd : Below U.heap.size U (wr.drewN nq) := (HB.out.trans (below_drewN _ _ _) : Below _ _ _)
      have hmade := made_t (s := 2) (enc := me) (wr.drewN nq) (B := U.heap.size) (E := 53) hbd.size rfl
      have hbV := hbd.alloc hbd.size (.cells #[] 53)
      clear p0 p1 HB hbd
      generalize (wr.drewN nq).alloc (.cells #[] 53) = V at *
      have hsz : (wr.drewN nq).heap.size = wr.heap.size := by simp
      rw [hsz] at hmade
      clear hsz
      have HBV : Hid (Below U.heap.size U V) := hbV
      obtain ⟨p0, p1⟩ := HV.out V hbV
      have hb35 : Below U.heap.size U (V.alloc (.cells #[.int .i64 x, .int .i64 y] 53)).drew := (hbV.alloc hbV.size _).drew
      have r35 := HR.out _ hb35
      have hl35 : MRow (V.alloc (.cells #[.int .i64 x, .int .i64 y] 53)).drew (some ⟨V.heap.size, 0, none⟩) 1 [(x, y)] := (trow_lit V _ _ _ rfl (fun j v hj => by
          match j, hj with
          | 0, hj | 1, hj => exact hj
          | j + 2, hj => simp [me] at hj) : TRow 2 me (0, 0) (V.alloc (.cells #[.int .i64 x, .int .i64 y] 53)) _ 1 [(x, y)])
      have HM : Hid (V.ownsRow U.heap.size 53 2 (.slice (some ⟨wr.heap.size, 0, none⟩) 0 0) 0 (tcells me [])) := hmade
      clear hbV hmade
      go_region_held3 (fun W => W.cell? ⟨w.heap.size, 0, none⟩ = some (.int .i64 x) ∧ W.cell? ⟨w.heap.size, 1, none⟩ = some (.int .i64 y)) (first | go_keep | (refine ⟨?_, ?_⟩ <;> assumption))
        (first
          | (refine step_tfull moveE meE (by rfl) _ _ (by rfl) none 0 l (by rfl) (fun _ => rfl) r35 _ 1 (x, y) (by rfl) hl35 (by omega) ?_; intro g7 c7 w7 _ hown7 hb7; have hb8 := hb35.trans (hb7.mono hb35.size); have hown8 := lowns_base hown7 hb35.size; obtain ⟨z0, z1⟩ := HV.out w7 hb8)
          | (refine step_tg (d := (0, 0)) moveE meE (w0 := U) (B := U.heap.size) (by rfl) _ _ (by rfl) _ (0 + 1) (l ++ [(x, y)]) (by rfl) hown8 (some ⟨wr.heap.size, 0, none⟩) 0 0 [] (by rfl) (TRow.nil _ _) (fun h => by cases h) (by omega) hb8 hb8.size ?_; intro a9 c9 w9 _ _ _ hown9 hb9; obtain ⟨y0, y1⟩ := HV.out w9 hb9))
      all_goals
        go_wp2
        go_ret
        exact ⟨a9, c9, rfl, by rw [List.append_nil] at hown9; exact lowns_base hown9 HU.out.size, HU.out.trans (hb9.mono HU.out.size)⟩
    · have dk : decide ((0 : Int) < (n : Int)) = true := by simp; omega
      have dk2 : decide (0 < n) = true := by simp; omega
      have dk3 : 0 < n := by omega
      have wk : IntKind.i64.wrap ((n : Int) - 1) = (K : Int) := by rw [IntKind.wrap_i64]; omega
      have o0 : (0 : Int) ≤ (K : Int) := by omega
      have o1 : (K : Int) < (n : Int) := by omega
      have dd : decide (x < x') = false := by simp; omega
      by_cases hcn : c = n
      · subst hcn
        clear hk
        go_wp2_with fail
        go_quiet (fail)
        go_wp2_with fail
        have hbd : Below U.heap.size U (wr.drewN nq) := (HB.out.trans (below_drewN _ _ _) : Below _ _ _)
        have hmade := made_t (s := 2) (enc := me) (wr.drewN nq) (B := U.heap.size) (E := 53) hbd.size rfl
        have hbV := hbd.alloc hbd.size (.cells #[] 53)
        clear p0 p1 HB hbd
        generalize (wr.drewN nq).alloc (.cells #[] 53) = V at *
        have hsz : (wr.drewN nq).heap.size = wr.heap.size := by simp
        rw [hsz] at hmade
        clear hsz
        have HBV : Hid (Below U.heap.size U V) := hbV
        obtain ⟨p0, p1⟩ := HV.out V hbV
        have hb35 : Below U.heap.size U (V.alloc (.cells #[.int .i64 x, .int .i64 y] 53)).drew := (hbV.alloc hbV.size _).drew
        have r35 := HR.out _ hb35
        have hl35 : MRow (V.alloc (.cells #[.int .i64 x, .int .i64 y] 53)).drew (some ⟨V.heap.size, 0, none⟩) 1 [(x, y)] := (trow_lit V _ _ _ rfl (fun j v hj => by
            match j, hj with
            | 0, hj | 1, hj => exact hj
            | j + 2, hj => simp [me] at hj) : TRow 2 me (0, 0) (V.alloc (.cells #[.int .i64 x, .int .i64 y] 53)) _ 1 [(x, y)])
        have HM : Hid (V.ownsRow U.heap.size 53 2 (.slice (some ⟨wr.heap.size, 0, none⟩) 0 0) 0 (tcells me [])) := hmade
        clear hbV hmade
        go_region_held3 (fun W => W.cell? ⟨w.heap.size, 0, none⟩ = some (.int .i64 x) ∧ W.cell? ⟨w.heap.size, 1, none⟩ = some (.int .i64 y)) (first | go_keep | (refine ⟨?_, ?_⟩ <;> assumption))
          (first
            | (refine step_tfull moveE meE (by rfl) _ _ (by rfl) (some ⟨b, off, none⟩) c l (by rfl) (fun h => by cases h) r35 _ 1 (x, y) (by rfl) hl35 (by omega) ?_; intro g7 c7 w7 _ hown7 hb7; have hb8 := hb35.trans (hb7.mono hb35.size); have hown8 := lowns_base hown7 hb35.size; obtain ⟨z0, z1⟩ := HV.out w7 hb8)
            | (refine step_tg (d := (0, 0)) moveE meE (w0 := U) (B := U.heap.size) (by rfl) _ _ (by rfl) _ (c + 1) (l ++ [(x, y)]) (by rfl) hown8 (some ⟨wr.heap.size, 0, none⟩) 0 0 [] (by rfl) (TRow.nil _ _) (fun h => by cases h) (by omega) hb8 hb8.size ?_; intro a9 c9 w9 _ _ _ hown9 hb9; obtain ⟨y0, y1⟩ := HV.out w9 hb9))
        all_goals
          go_wp2
          go_ret
          exact ⟨a9, c9, rfl, by rw [List.append_nil] at hown9; exact lowns_base hown9 HU.out.size, HU.out.trans (hb9.mono HU.out.size)⟩
      · have hn1 : (n : Int) ≤ (c : Int) := by omega
        have hcn2 : ¬ ((c : Int) = (n : Int)) := by omega
        have hcn3 : ¬ (n = c) := by omega
        clear hk
        go_wp2_with fail
        go_quiet (fail)
        go_wp2_with fail
        have hbd : Below U.heap.size U (wr.drewN nq) := (HB.out.trans (below_drewN _ _ _) : Below _ _ _)
        have hmade := made_t (s := 2) (enc := me) (wr.drewN nq) (B := U.heap.size) (E := 53) hbd.size rfl
        have hbV := hbd.alloc hbd.size (.cells #[] 53)
        clear p0 p1 HB hbd
        generalize (wr.drewN nq).alloc (.cells #[] 53) = V at *
        have hsz : (wr.drewN nq).heap.size = wr.heap.size := by simp
        rw [hsz] at hmade
        clear hsz
        have HBV : Hid (Below U.heap.size U V) := hbV
        obtain ⟨p0, p1⟩ := HV.out V hbV
        have hb35 : Below U.heap.size U (V.alloc (.cells #[.int .i64 x, .int .i64 y] 53)).drew := (hbV.alloc hbV.size _).drew
        have r35 := HR.out _ hb35
        have hl35 : MRow (V.alloc (.cells #[.int .i64 x, .int .i64 y] 53)).drew (some ⟨V.heap.size, 0, none⟩) 1 [(x, y)] := (trow_lit V _ _ _ rfl (fun j v hj => by
            match j, hj with
            | 0, hj | 1, hj => exact hj
            | j + 2, hj => simp [me] at hj) : TRow 2 me (0, 0) (V.alloc (.cells #[.int .i64 x, .int .i64 y] 53)) _ 1 [(x, y)])
        have HM : Hid (V.ownsRow U.heap.size 53 2 (.slice (some ⟨wr.heap.size, 0, none⟩) 0 0) 0 (tcells me [])) := hmade
        clear hbV hmade
        go_region_held3 (fun W => W.cell? ⟨w.heap.size, 0, none⟩ = some (.int .i64 x) ∧ W.cell? ⟨w.heap.size, 1, none⟩ = some (.int .i64 y)) (first | go_keep | (refine ⟨?_, ?_⟩ <;> assumption))
          (first
            | (refine step_tfull moveE meE (by rfl) _ _ (by rfl) (some ⟨b, off, none⟩) n l (by rfl) (fun h => by cases h) r35 _ 1 (x, y) (by rfl) hl35 (by omega) ?_; intro g7 c7 w7 _ hown7 hb7; have hb8 := hb35.trans (hb7.mono hb35.size); have hown8 := lowns_base hown7 hb35.size; obtain ⟨z0, z1⟩ := HV.out w7 hb8)
            | (refine step_tg (d := (0, 0)) moveE meE (w0 := U) (B := U.heap.size) (by rfl) _ _ (by rfl) _ (n + 1) (l ++ [(x, y)]) (by rfl) hown8 (some ⟨wr.heap.size, 0, none⟩) 0 0 [] (by rfl) (TRow.nil _ _) (fun h => by cases h) (by omega) hb8 hb8.size ?_; intro a9 c9 w9 _ _ _ hown9 hb9; obtain ⟨y0, y1⟩ := HV.out w9 hb9))
        all_goals
          go_wp2
          go_ret
          exact ⟨a9, c9, rfl, by rw [List.append_nil] at hown9; exact lowns_base hown9 HU.out.size, HU.out.trans (hb9.mono HU.out.size)⟩

set_option maxRecDepth 100000 in
set_option maxHeartbeats 4000000 in
theorem rkept_end (a : Option Addr) (n c : Nat) (l : List (Int × Int × Int)) (x y z : Int) (w : World) (hn : n ≤ 1000) (hnc : n ≤ c) (hr : KRow w a n l) (hz : a = none → n = 0 ∧ c = 0) (ha0 : n = 0 → a = none) (hlast : ∀ m ∈ l, m.2.1 < y) :
    Calls Tryz.prog 83 #[.slice a n c, .agg #[.int .i64 x, .int .i64 y, .int .i64 z]] w fun e w' => ∃ g d, e = .returned (.slice g (n + 1) d) ∧ w'.ownsRow w.heap.size 67 3 (.slice g (n + 1) d) (n + 1) (tcells ke (l ++ [(x, y, z)])) ∧ Below w.heap.size w w' := by
  obtain ⟨U, hU⟩ : ∃ U, U = w.alloc (.cells #[.int .i64 x, .int .i64 y, .int .i64 z] 67) := ⟨_, rfl⟩
  have hbU : Below w.heap.size w U := by rw [hU]; exact below_alloc _ _
  have e0 : U.heap[w.heap.size]? = some (.cells #[.int .i64 x, .int .i64 y, .int .i64 z] 67 (0, 0)) := by rw [hU]; exact heap_alloc_new _ _
  have HV : Hid (∀ W, Below U.heap.size U W → (W.cell? ⟨w.heap.size, 0, none⟩ = some (.int .i64 x) ∧ W.cell? ⟨w.heap.size, 1, none⟩ = some (.int .i64 y) ∧ W.cell? ⟨w.heap.size, 2, none⟩ = some (.int .i64 z))) := (fun W hb => by
    have a := (blkc ((hb.block _ (ob_ltB e0)).trans e0)).1
    exact ⟨a 0, a 1, a 2⟩ : ∀ W, _ → _)
  have HR : Hid (∀ W, Below U.heap.size U W → KRow W a n l) := (fun W hb => hr.below (hbU.trans (hb.mono hbU.size)) (Nat.le_refl _) : ∀ W, _ → _)
  have HL : Hid (∀ m ∈ l, m.2.1 < y) := hlast
  have HN : Hid (l.length = n) := hr.1
  have HU : Hid (Below w.heap.size w U) := hbU
  have hUe : w.alloc (.cells #[.int .i64 x, .int .i64 y, .int .i64 z] 67) = U := hU.symm
  clear hU hbU e0 hlast
  have last : ∀ W, Below U.heap.size U W → (n = 0 ∨ ∃ (K : Nat) (b off : Nat) (x' y' z' : Int), n = K + 1 ∧ a = some ⟨b, off, none⟩ ∧ y' < y ∧ W.cell? ⟨b, off + K * 3, none⟩ = some (.int .i64 x') ∧ W.cell? ⟨b, off + K * 3 + 1, none⟩ = some (.int .i64 y') ∧ W.cell? ⟨b, off + K * 3 + 2, none⟩ = some (.int .i64 z')) := fun W hb => by
    rcases Nat.eq_zero_or_pos n with h0 | h0
    · exact .inl h0
    · obtain ⟨b, off, x', y', z', rfl, hx, q0, q1, q2⟩ := kget (HR.out W hb) (Below.refl _ _) (show n - 1 < n by omega)
      refine .inr ⟨n - 1, b, off, x', y', z', by omega, rfl, ?_, q0, q1, q2⟩
      have hm := HL.out (l.getD (n - 1) (0, 0, 0)) (by simp [show n - 1 < l.length by rw [HN.out]; omega])
      rw [hx.out] at hm
      exact hm
  have HLA : Hid (∀ W, Below U.heap.size U W → _) := last
  clear last hr
  go_enter Tryz.func83, Tryz.ntmps83
  go_wp2
  clear hUe
  go_loopw [5] (fun iv wr => iv = .int .i64 (n : Nat) ∧ Hid (Below U.heap.size U wr)) (fun _ _ => 0)
  case atStart => exact ⟨rfl, (Below.refl _ _ : Below _ _ _)⟩
  case round =>
    obtain ⟨rfl, HB⟩ := hrel
    obtain ⟨p0, p1, p2⟩ := HV.out wr HB.out
    rcases HLA.out wr HB.out with h0 | ⟨K, b, off, x', y', z', hk, rfl, hkey, q0, q1, q2⟩
    · subst h0
      obtain rfl := ha0 rfl
      obtain ⟨_, rfl⟩ := hz rfl
      have dk : decide ((0 : Int) < ((0 : Nat) : Int)) = false := by decide
      go_wp2_with fail
      go_quiet (fail)
      go_wp2_with fail
      have hbd : Below U.heap.size U (wr.drewN nq) := (HB.out.trans (below_drewN _ _ _) : Below _ _ _)
      have hmade := made_t (s := 3) (enc := ke) (wr.drewN nq) (B := U.heap.size) (E := 67) hbd.size rfl
      have hbV := hbd.alloc hbd.size (.cells #[] 67)
      clear p0 p1 p2 HB hbd
      generalize (wr.drewN nq).alloc (.cells #[] 67) = V at *
      have hsz : (wr.drewN nq).heap.size = wr.heap.size := by simp
      rw [hsz] at hmade
      clear hsz
      have HBV : Hid (Below U.heap.size U V) := hbV
      obtain ⟨p0, p1, p2⟩ := HV.out V hbV
      have hb35 : Below U.heap.size U (V.alloc (.cells #[.int .i64 x, .int .i64 y, .int .i64 z] 67)).drew := (hbV.alloc hbV.size _).drew
      have r35 := HR.out _ hb35
      have hl35 : KRow (V.alloc (.cells #[.int .i64 x, .int .i64 y, .int .i64 z] 67)).drew (some ⟨V.heap.size, 0, none⟩) 1 [(x, y, z)] := (trow_lit V _ _ _ rfl (fun j v hj => by
          match j, hj with
          | 0, hj | 1, hj | 2, hj => exact hj
          | j + 3, hj => simp [ke] at hj) : TRow 3 ke (0, 0, 0) (V.alloc (.cells #[.int .i64 x, .int .i64 y, .int .i64 z] 67)) _ 1 [(x, y, z)])
      have HM : Hid (V.ownsRow U.heap.size 67 3 (.slice (some ⟨wr.heap.size, 0, none⟩) 0 0) 0 (tcells ke [])) := hmade
      clear hbV hmade
      go_region_held3 (fun W => W.cell? ⟨w.heap.size, 0, none⟩ = some (.int .i64 x) ∧ W.cell? ⟨w.heap.size, 1, none⟩ = some (.int .i64 y) ∧ W.cell? ⟨w.heap.size, 2, none⟩ = some (.int .i64 z)) (first | go_keep | (refine ⟨?_, ?_, ?_⟩ <;> assumption))
        (first
          | (refine step_tfull stillE keE (by rfl) _ _ (by rfl) none 0 l (by rfl) (fun _ => rfl) r35 _ 1 (x, y, z) (by rfl) hl35 (by omega) ?_; intro g7 c7 w7 _ hown7 hb7; have hb8 := hb35.trans (hb7.mono hb35.size); have hown8 := lowns_base hown7 hb35.size; obtain ⟨z0, z1, z2⟩ := HV.out w7 hb8)
          | (refine step_tg (d := (0, 0, 0)) stillE keE (w0 := U) (B := U.heap.size) (by rfl) _ _ (by rfl) _ (0 + 1) (l ++ [(x, y, z)]) (by rfl) hown8 (some ⟨wr.heap.size, 0, none⟩) 0 0 [] (by rfl) (TRow.nil _ _) (fun h => by cases h) (by omega) hb8 hb8.size ?_; intro a9 c9 w9 _ _ _ hown9 hb9; obtain ⟨y0, y1, y2⟩ := HV.out w9 hb9))
      all_goals
        go_wp2
        go_ret
        exact ⟨a9, c9, rfl, by rw [List.append_nil] at hown9; exact lowns_base hown9 HU.out.size, HU.out.trans (hb9.mono HU.out.size)⟩
    · have dk : decide ((0 : Int) < (n : Int)) = true := by simp; omega
      have dk2 : decide (0 < n) = true := by simp; omega
      have dk3 : 0 < n := by omega
      have wk : IntKind.i64.wrap ((n : Int) - 1) = (K : Int) := by rw [IntKind.wrap_i64]; omega
      have o0 : (0 : Int) ≤ (K : Int) := by omega
      have o1 : (K : Int) < (n : Int) := by omega
      have dd : decide (y < y') = false := by simp; omega
      by_cases hcn : c = n
      · subst hcn
        clear hk
        go_wp2_with fail
        go_quiet (fail)
        go_wp2_with fail
        have hbd : Below U.heap.size U (wr.drewN nq) := (HB.out.trans (below_drewN _ _ _) : Below _ _ _)
        have hmade := made_t (s := 3) (enc := ke) (wr.drewN nq) (B := U.heap.size) (E := 67) hbd.size rfl
        have hbV := hbd.alloc hbd.size (.cells #[] 67)
        clear p0 p1 p2 HB hbd
        generalize (wr.drewN nq).alloc (.cells #[] 67) = V at *
        have hsz : (wr.drewN nq).heap.size = wr.heap.size := by simp
        rw [hsz] at hmade
        clear hsz
        have HBV : Hid (Below U.heap.size U V) := hbV
        obtain ⟨p0, p1, p2⟩ := HV.out V hbV
        have hb35 : Below U.heap.size U (V.alloc (.cells #[.int .i64 x, .int .i64 y, .int .i64 z] 67)).drew := (hbV.alloc hbV.size _).drew
        have r35 := HR.out _ hb35
        have hl35 : KRow (V.alloc (.cells #[.int .i64 x, .int .i64 y, .int .i64 z] 67)).drew (some ⟨V.heap.size, 0, none⟩) 1 [(x, y, z)] := (trow_lit V _ _ _ rfl (fun j v hj => by
            match j, hj with
            | 0, hj | 1, hj | 2, hj => exact hj
            | j + 3, hj => simp [ke] at hj) : TRow 3 ke (0, 0, 0) (V.alloc (.cells #[.int .i64 x, .int .i64 y, .int .i64 z] 67)) _ 1 [(x, y, z)])
        have HM : Hid (V.ownsRow U.heap.size 67 3 (.slice (some ⟨wr.heap.size, 0, none⟩) 0 0) 0 (tcells ke [])) := hmade
        clear hbV hmade
        go_region_held3 (fun W => W.cell? ⟨w.heap.size, 0, none⟩ = some (.int .i64 x) ∧ W.cell? ⟨w.heap.size, 1, none⟩ = some (.int .i64 y) ∧ W.cell? ⟨w.heap.size, 2, none⟩ = some (.int .i64 z)) (first | go_keep | (refine ⟨?_, ?_, ?_⟩ <;> assumption))
          (first
            | (refine step_tfull stillE keE (by rfl) _ _ (by rfl) (some ⟨b, off, none⟩) c l (by rfl) (fun h => by cases h) r35 _ 1 (x, y, z) (by rfl) hl35 (by omega) ?_; intro g7 c7 w7 _ hown7 hb7; have hb8 := hb35.trans (hb7.mono hb35.size); have hown8 := lowns_base hown7 hb35.size; obtain ⟨z0, z1, z2⟩ := HV.out w7 hb8)
            | (refine step_tg (d := (0, 0, 0)) stillE keE (w0 := U) (B := U.heap.size) (by rfl) _ _ (by rfl) _ (c + 1) (l ++ [(x, y, z)]) (by rfl) hown8 (some ⟨wr.heap.size, 0, none⟩) 0 0 [] (by rfl) (TRow.nil _ _) (fun h => by cases h) (by omega) hb8 hb8.size ?_; intro a9 c9 w9 _ _ _ hown9 hb9; obtain ⟨y0, y1, y2⟩ := HV.out w9 hb9))
        all_goals
          go_wp2
          go_ret
          exact ⟨a9, c9, rfl, by rw [List.append_nil] at hown9; exact lowns_base hown9 HU.out.size, HU.out.trans (hb9.mono HU.out.size)⟩
      · have hn1 : (n : Int) ≤ (c : Int) := by omega
        have hcn2 : ¬ ((c : Int) = (n : Int)) := by omega
        have hcn3 : ¬ (n = c) := by omega
        clear hk
        go_wp2_with fail
        go_quiet (fail)
        go_wp2_with fail
        have hbd : Below U.heap.size U (wr.drewN nq) := (HB.out.trans (below_drewN _ _ _) : Below _ _ _)
        have hmade := made_t (s := 3) (enc := ke) (wr.drewN nq) (B := U.heap.size) (E := 67) hbd.size rfl
        have hbV := hbd.alloc hbd.size (.cells #[] 67)
        clear p0 p1 p2 HB hbd
        generalize (wr.drewN nq).alloc (.cells #[] 67) = V at *
        have hsz : (wr.drewN nq).heap.size = wr.heap.size := by simp
        rw [hsz] at hmade
        clear hsz
        have HBV : Hid (Below U.heap.size U V) := hbV
        obtain ⟨p0, p1, p2⟩ := HV.out V hbV
        have hb35 : Below U.heap.size U (V.alloc (.cells #[.int .i64 x, .int .i64 y, .int .i64 z] 67)).drew := (hbV.alloc hbV.size _).drew
        have r35 := HR.out _ hb35
        have hl35 : KRow (V.alloc (.cells #[.int .i64 x, .int .i64 y, .int .i64 z] 67)).drew (some ⟨V.heap.size, 0, none⟩) 1 [(x, y, z)] := (trow_lit V _ _ _ rfl (fun j v hj => by
            match j, hj with
            | 0, hj | 1, hj | 2, hj => exact hj
            | j + 3, hj => simp [ke] at hj) : TRow 3 ke (0, 0, 0) (V.alloc (.cells #[.int .i64 x, .int .i64 y, .int .i64 z] 67)) _ 1 [(x, y, z)])
        have HM : Hid (V.ownsRow U.heap.size 67 3 (.slice (some ⟨wr.heap.size, 0, none⟩) 0 0) 0 (tcells ke [])) := hmade
        clear hbV hmade
        go_region_held3 (fun W => W.cell? ⟨w.heap.size, 0, none⟩ = some (.int .i64 x) ∧ W.cell? ⟨w.heap.size, 1, none⟩ = some (.int .i64 y) ∧ W.cell? ⟨w.heap.size, 2, none⟩ = some (.int .i64 z)) (first | go_keep | (refine ⟨?_, ?_, ?_⟩ <;> assumption))
          (first
            | (refine step_tfull stillE keE (by rfl) _ _ (by rfl) (some ⟨b, off, none⟩) n l (by rfl) (fun h => by cases h) r35 _ 1 (x, y, z) (by rfl) hl35 (by omega) ?_; intro g7 c7 w7 _ hown7 hb7; have hb8 := hb35.trans (hb7.mono hb35.size); have hown8 := lowns_base hown7 hb35.size; obtain ⟨z0, z1, z2⟩ := HV.out w7 hb8)
            | (refine step_tg (d := (0, 0, 0)) stillE keE (w0 := U) (B := U.heap.size) (by rfl) _ _ (by rfl) _ (n + 1) (l ++ [(x, y, z)]) (by rfl) hown8 (some ⟨wr.heap.size, 0, none⟩) 0 0 [] (by rfl) (TRow.nil _ _) (fun h => by cases h) (by omega) hb8 hb8.size ?_; intro a9 c9 w9 _ _ _ hown9 hb9; obtain ⟨y0, y1, y2⟩ := HV.out w9 hb9))
        all_goals
          go_wp2
          go_ret
          exact ⟨a9, c9, rfl, by rw [List.append_nil] at hown9; exact lowns_base hown9 HU.out.size, HU.out.trans (hb9.mono HU.out.size)⟩

set_option maxRecDepth 100000 in
set_option maxHeartbeats 2000000 in
theorem rfresh_yes (s : List Int) (a1 : Option Addr) (n1 c1 : Nat) (a2 : Option Addr) (n2 c2 : Nat) (a3 : Option Addr) (n3 c3 : Nat) (a4 : Option Addr) (n4 c4 : Nat) (i1 i2 i3 i4 i5 i6 i7 : Int) (N : Int) (w : World) (hn : n1 ≤ 1000) (hr : ZRow w a1 n1 s) (hs : ∀ x ∈ s, x < N) (_hz2 : n2 = 0) :
    Calls Tryz.prog 82 #[.agg #[.slice a1 n1 c1, .slice a2 0 c2, .slice a3 n3 c3, .slice a4 n4 c4, .int .i64 i1, .int .i64 i2, .int .i64 i3, .int .i64 i4, .int .i64 i5, .int .i64 i6, .int .i64 i7], .int .i64 N] w fun e w' => e = .returned (.bool true) ∧ Below w.heap.size w w' := by

  obtain ⟨U, hU⟩ : ∃ U, U = w.alloc (.cells #[.slice a1 n1 c1, .slice a2 0 c2, .slice a3 n3 c3, .slice a4 n4 c4, .int .i64 i1, .int .i64 i2, .int .i64 i3, .int .i64 i4, .int .i64 i5, .int .i64 i6, .int .i64 i7] 29) := ⟨_, rfl⟩
  have hbU : Below w.heap.size w U := by rw [hU]; exact below_alloc _ _
  have e0 : U.heap[w.heap.size]? = some (.cells #[.slice a1 n1 c1, .slice a2 0 c2, .slice a3 n3 c3, .slice a4 n4 c4, .int .i64 i1, .int .i64 i2, .int .i64 i3, .int .i64 i4, .int .i64 i5, .int .i64 i6, .int .i64 i7] 29 (0, 0)) := by rw [hU]; exact heap_alloc_new _ _
  have x0 := (blkc e0).1 0
  have x1 := (blkc e0).1 1
  have HR : Hid (ZRow w a1 n1 s) := hr
  have HN : Hid (s.length = n1) := hr.1
  have HS : Hid (∀ x ∈ s, x < N) := hs
  have HU : Hid (Below w.heap.size w U) := hbU
  have hUe : w.alloc (.cells #[.slice a1 n1 c1, .slice a2 0 c2, .slice a3 n3 c3, .slice a4 n4 c4, .int .i64 i1, .int .i64 i2, .int .i64 i3, .int .i64 i4, .int .i64 i5, .int .i64 i6, .int .i64 i7] 29) = U := hU.symm
  clear hU hbU e0 hr hs
  go_enter Tryz.func82, Tryz.ntmps82
  go_wp2
  clear hUe
  go_loop [5] (fun i => ∃ k : Nat, k ≤ n1 ∧ i = .int .i64 k) (fun i => n1 - (intOf i).toNat)
  case atStart => exact ⟨0, by omega, rfl⟩
  case round =>
    obtain ⟨k, hk, rfl⟩ := hrel
    by_cases hlt : k < n1
    · obtain ⟨b, off, x, rfl, hx, q0⟩ := zget HR.out HU.out hlt
      have hks : k < s.length := by rw [HN.out]; exact hlt
      have hxN : x < N := HS.out x (by rw [← hx.out]; simp [hks])
      have dx : decide (N ≤ x) = false := by simp; omega
      have i0 : (0 : Int) ≤ (k : Int) := by omega
      have i1 : (k : Int) < (n1 : Int) := by omega
      clear hx hxN hks
      go_wp2
      go_round
      case rel => exact ⟨k + 1, by omega, by go_num⟩
      case measure => simp [intOf]; omega
    · obtain rfl : k = n1 := by omega
      go_wp2
      go_loop [6] (fun i => i = .int .i64 (0 : Nat)) (fun _ => 0)
      case atStart => rfl
      case round =>
        obtain rfl := hrel
        go_wp2
        go_ret
        exact ⟨rfl, HU.out⟩

set_option maxRecDepth 100000 in
set_option maxHeartbeats 2000000 in
theorem rplace_no (a1 : Option Addr) (n1 c1 : Nat) (a2 : Option Addr) (n2 c2 : Nat) (a3 : Option Addr) (n3 c3 : Nat) (a4 : Option Addr) (n4 c4 : Nat) (i1 i2 i3 i4 i5 i6 i7 : Int) (k9 n9 i9 t9 a9 b9 c9 p9 q9 r9 : Int) (f9 g9 : ByteArray) (w : World) (h2 : ¬ (k9 = 2)) (h3 : ¬ (k9 = 3)) (h5 : ¬ (k9 = 5)) (h7 : ¬ (k9 = 7)) :
    Calls Tryz.prog 81 #[.agg #[.slice a1 n1 c1, .slice a2 n2 c2, .slice a3 n3 c3, .slice a4 n4 c4, .int .i64 i1, .int .i64 i2, .int .i64 i3, .int .i64 i4, .int .i64 i5, .int .i64 i6, .int .i64 i7], .agg #[.int .i64 k9, .int .i64 n9, .int .i64 i9, .int .i64 t9, .int .i64 a9, .int .i64 b9, .int .i64 c9, .int .i64 p9, .int .i64 q9, .int .i64 r9, .string f9, .string g9]] w fun e w' => e = .returned (.int .i64 (-1)) ∧ Below w.heap.size w w' := by
  obtain ⟨U, hU⟩ : ∃ U, U = (w.alloc (.cells #[.slice a1 n1 c1, .slice a2 n2 c2, .slice a3 n3 c3, .slice a4 n4 c4, .int .i64 i1, .int .i64 i2, .int .i64 i3, .int .i64 i4, .int .i64 i5, .int .i64 i6, .int .i64 i7] 29)).alloc (oed k9 n9 i9 t9 a9 b9 c9 p9 q9 r9 f9 g9) := ⟨_, rfl⟩
  have hbU : Below w.heap.size w U := by rw [hU]; exact below_two _ _ _
  have e0 : U.heap[w.heap.size]? = some (.cells #[.slice a1 n1 c1, .slice a2 n2 c2, .slice a3 n3 c3, .slice a4 n4 c4, .int .i64 i1, .int .i64 i2, .int .i64 i3, .int .i64 i4, .int .i64 i5, .int .i64 i6, .int .i64 i7] 29 (0, 0)) := by
    rw [hU]; exact (Below.heap_alloc _ _ _ (by simp)).trans (heap_alloc_new _ _)
  have e1 : U.heap[w.heap.size + 1]? = some (oed k9 n9 i9 t9 a9 b9 c9 p9 q9 r9 f9 g9) := by
    rw [hU]; have := heap_alloc_new (w.alloc (.cells #[.slice a1 n1 c1, .slice a2 n2 c2, .slice a3 n3 c3, .slice a4 n4 c4, .int .i64 i1, .int .i64 i2, .int .i64 i3, .int .i64 i4, .int .i64 i5, .int .i64 i6, .int .i64 i7] 29)) (oed k9 n9 i9 t9 a9 b9 c9 p9 q9 r9 f9 g9); rwa [World.size_alloc] at this
  have HV : Hid (∀ W, Below U.heap.size U W → (W.cell? ⟨w.heap.size, 0, none⟩ = some (.slice a1 n1 c1) ∧ W.cell? ⟨w.heap.size + 1, 0, none⟩ = some (.int .i64 k9) ∧ W.cell? ⟨w.heap.size + 1, 2, none⟩ = some (.int .i64 i9))) := (fun W hb => by
    have a := (blkc ((hb.block _ (ob_ltB e0)).trans e0)).1
    have b := (blkc ((hb.block _ (ob_ltB e1)).trans e1)).1
    exact ⟨a 0, b 0, b 2⟩ : ∀ W, _ → _)
  have HU : Hid (Below w.heap.size w U) := hbU
  have hUe : (w.alloc (.cells #[.slice a1 n1 c1, .slice a2 n2 c2, .slice a3 n3 c3, .slice a4 n4 c4, .int .i64 i1, .int .i64 i2, .int .i64 i3, .int .i64 i4, .int .i64 i5, .int .i64 i6, .int .i64 i7] 29)).alloc (oed k9 n9 i9 t9 a9 b9 c9 p9 q9 r9 f9 g9) = U := hU.symm
  clear hU hbU e0 e1
  have d2 : (k9 == 2) = false := by simpa using h2
  have d3 : (k9 == 3) = false := by simpa using h3
  have d5 : (k9 == 5) = false := by simpa using h5
  have d7 : (k9 == 7) = false := by simpa using h7
  clear h2 h3 h5 h7
  go_enter Tryz.func81, Tryz.ntmps81
  go_wp2
  clear hUe
  go_loopw [5] (fun i wr => ∃ k : Nat, k ≤ 64 ∧ i = .int .i64 k ∧ Hid (Below U.heap.size U wr)) (fun i _ => 64 - (intOf i).toNat)
  case atStart => exact ⟨0, by omega, rfl, (Below.refl _ _ : Below _ _ _)⟩
  case round =>
    obtain ⟨k, hk, rfl, HB⟩ := hrel
    obtain ⟨x0, x1, x2⟩ := HV.out wr HB.out
    by_cases hlt : k < 64
    · have i1 : (k : Int) < (64 : Int) := by omega
      go_wp2_with fail
      go_quiet (fail)
      go_wp2_with fail
      go_quiet (fail)
      go_wp2
      go_roundw
      case rel => exact ⟨k + 1, by omega, by go_num, by first | exact (HB.out : Below _ _ _) | exact (HB.out.trans (below_drewN _ _ _) : Below _ _ _) | exact ((HB.out.trans (below_drewN _ _ _)).trans (below_drewN _ _ _) : Below _ _ _)⟩
      case measure => simp [intOf]; omega
    · obtain rfl : k = 64 := by omega
      go_wp2
      go_ret
      exact ⟨rfl, HU.out.trans (HB.out.mono HU.out.size)⟩

set_option maxRecDepth 100000 in
set_option maxHeartbeats 2000000 in
theorem rplace_move (s : List Int) (a1 : Option Addr) (n1 c1 : Nat) (a2 : Option Addr) (n2 c2 : Nat) (a3 : Option Addr) (n3 c3 : Nat) (a4 : Option Addr) (n4 c4 : Nat) (i1 i2 i3 i4 i5 i6 i7 : Int) (k9 n9 i9 t9 a9 b9 c9 p9 q9 r9 : Int) (f9 g9 : ByteArray) (w : World) (hr : ZRow w a1 n1 s) (p : Nat) (hp : p < 64) (hpn : p < n1) (hat : s.getD p 0 = i9) (hne : ∀ m, m < p → ¬ (s.getD m 0 = i9)) (hk9 : k9 = 2) :
    Calls Tryz.prog 81 #[.agg #[.slice a1 n1 c1, .slice a2 n2 c2, .slice a3 n3 c3, .slice a4 n4 c4, .int .i64 i1, .int .i64 i2, .int .i64 i3, .int .i64 i4, .int .i64 i5, .int .i64 i6, .int .i64 i7], .agg #[.int .i64 k9, .int .i64 n9, .int .i64 i9, .int .i64 t9, .int .i64 a9, .int .i64 b9, .int .i64 c9, .int .i64 p9, .int .i64 q9, .int .i64 r9, .string f9, .string g9]] w fun e w' => e = .returned (.int .i64 (p : Nat)) ∧ Below w.heap.size w w' := by
  subst hk9
  have HR : Hid (ZRow w a1 n1 s) := hr
  have HA : Hid (s.getD p 0 = i9) := hat
  have HNE : Hid (∀ m, m < p → ¬ (s.getD m 0 = i9)) := hne
  clear hr hat hne
  obtain ⟨U, hU⟩ : ∃ U, U = (w.alloc (.cells #[.slice a1 n1 c1, .slice a2 n2 c2, .slice a3 n3 c3, .slice a4 n4 c4, .int .i64 i1, .int .i64 i2, .int .i64 i3, .int .i64 i4, .int .i64 i5, .int .i64 i6, .int .i64 i7] 29)).alloc (oed 2 n9 i9 t9 a9 b9 c9 p9 q9 r9 f9 g9) := ⟨_, rfl⟩
  have hbU : Below w.heap.size w U := by rw [hU]; exact below_two _ _ _
  have e0 : U.heap[w.heap.size]? = some (.cells #[.slice a1 n1 c1, .slice a2 n2 c2, .slice a3 n3 c3, .slice a4 n4 c4, .int .i64 i1, .int .i64 i2, .int .i64 i3, .int .i64 i4, .int .i64 i5, .int .i64 i6, .int .i64 i7] 29 (0, 0)) := by
    rw [hU]; exact (Below.heap_alloc _ _ _ (by simp)).trans (heap_alloc_new _ _)
  have e1 : U.heap[w.heap.size + 1]? = some (oed 2 n9 i9 t9 a9 b9 c9 p9 q9 r9 f9 g9) := by
    rw [hU]; have := heap_alloc_new (w.alloc (.cells #[.slice a1 n1 c1, .slice a2 n2 c2, .slice a3 n3 c3, .slice a4 n4 c4, .int .i64 i1, .int .i64 i2, .int .i64 i3, .int .i64 i4, .int .i64 i5, .int .i64 i6, .int .i64 i7] 29)) (oed 2 n9 i9 t9 a9 b9 c9 p9 q9 r9 f9 g9); rwa [World.size_alloc] at this
  have HV : Hid (∀ W, Below U.heap.size U W → (W.cell? ⟨w.heap.size, 0, none⟩ = some (.slice a1 n1 c1) ∧ W.cell? ⟨w.heap.size + 1, 0, none⟩ = some (.int .i64 2) ∧ W.cell? ⟨w.heap.size + 1, 2, none⟩ = some (.int .i64 i9))) := (fun W hb => by
    have a := (blkc ((hb.block _ (ob_ltB e0)).trans e0)).1
    have b := (blkc ((hb.block _ (ob_ltB e1)).trans e1)).1
    exact ⟨a 0, b 0, b 2⟩ : ∀ W, _ → _)
  have HU : Hid (Below w.heap.size w U) := hbU
  have hUe : (w.alloc (.cells #[.slice a1 n1 c1, .slice a2 n2 c2, .slice a3 n3 c3, .slice a4 n4 c4, .int .i64 i1, .int .i64 i2, .int .i64 i3, .int .i64 i4, .int .i64 i5, .int .i64 i6, .int .i64 i7] 29)).alloc (oed 2 n9 i9 t9 a9 b9 c9 p9 q9 r9 f9 g9) = U := hU.symm
  clear hU hbU e0 e1
  go_enter Tryz.func81, Tryz.ntmps81
  go_wp2
  clear hUe
  go_loopw [5] (fun i wr => ∃ k : Nat, k ≤ p ∧ i = .int .i64 k ∧ Hid (Below U.heap.size U wr)) (fun i _ => p - (intOf i).toNat)
  case atStart => exact ⟨0, by omega, rfl, (Below.refl _ _ : Below _ _ _)⟩
  case round =>
    obtain ⟨k, hk, rfl, HB⟩ := hrel
    obtain ⟨x0, x1, x2⟩ := HV.out wr HB.out
    obtain ⟨b, off, x, rfl, hx, q0⟩ := zget HR.out (HU.out.trans (HB.out.mono HU.out.size)) (show k < n1 by omega)
    have i0 : (0 : Int) ≤ (k : Int) := by omega
    have i1 : (k : Int) < (64 : Int) := by omega
    have i2 : (k : Int) < (n1 : Int) := by omega
    by_cases hlt : k < p
    · have hxi : ¬ (x = i9) := by have := HNE.out k hlt; rw [hx.out] at this; exact this
      have dx : (x == i9) = false := by simpa using hxi
      clear hx hxi
      go_wp2_with fail
      go_quiet (fail)
      go_wp2_with fail
      go_quiet (fail)
      go_wp2
      go_roundw
      case rel => exact ⟨k + 1, by omega, by go_num, by first | exact (HB.out : Below _ _ _) | exact (HB.out.trans (below_drewN _ _ _) : Below _ _ _) | exact ((HB.out.trans (below_drewN _ _ _)).trans (below_drewN _ _ _) : Below _ _ _)⟩
      case measure => simp [intOf]; omega
    · obtain rfl : k = p := by omega
      have hxi : x = i9 := by rw [← hx.out]; exact HA.out
      have dx : (x == i9) = true := by simpa using hxi
      clear hx hxi
      go_wp2_with fail
      go_quiet (fail)
      go_wp2
      go_ret
      have hbF := HB.out.trans (below_drewN U.heap.size wr nq)
      exact ⟨rfl, HU.out.trans (hbF.mono HU.out.size)⟩
end Go.Proofs.YtmodogmjfbcddaaGreat
