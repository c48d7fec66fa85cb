/- What the program's own Parse of a text does. -/
import Derived.Test.YtaikgdgajkggiaaDoorN4
import Derived.Test.YtaikgdgajkggiaaDoorShelf
import Derived.Laws.IdiomStrings
namespace Go.Proofs.YtaikgdgajkggiaaDoor
open Go.RowKit

/-- the bytes of a text, as a new row -/
theorem conv_new (s : ByteArray) (w : World) : ∃ (C : Array Value) (cap : Nat), (convert 9 55 (.string s)).run Tryd.prog w = .ok (.slice (some ⟨w.heap.size, 0, none⟩) s.size cap) (w.drew.alloc (.cells C 5 (C.size, C.size + 1))) ∧ ∀ j, j < s.size → C[j]? = some (.int .u8 (((kb s).getD j 0 : Nat) : Int)) := by
  refine ⟨_, _, run_bytes_of_string w 9 55 5 s Tryd.underlying9 Tryd.underlying55 Tryd.underlying5, ?_⟩
  intro j hj
  have hj' : j < s.data.size := hj
  unfold bytesRow
  rw [Array.getElem?_append_left (by simpa using hj')]
  have e : s.data.toList[j]? = some (s.data[j]) := by simp
  simp only [kb, List.getD_eq_getElem?_getD, List.getElem?_map, e, Option.map_some, Option.getD_some, Array.getElem?_map]
  rw [Array.getElem?_eq_getElem hj']
  rfl

set_option maxRecDepth 100000 in
set_option maxHeartbeats 1000000 in
theorem digs_any (s : ByteArray) (w : World) (hs : s.size ≤ 10) (r : Int) (b : Bool) (hr : Hid ((r, b) = if 1 ≤ Na.num 0 (kb s) ∧ Na.num 0 (kb s) ≤ 2147483647 then (Na.num 0 (kb s), true) else (0, false))) :
    Calls Tryd.prog 25 #[.string s] w fun e w' => e = .returned (.tuple #[.int .i64 r, .bool b]) ∧ Below w.heap.size w w' := by
  have hkl := kb_len s
  obtain ⟨C, cap, hconv, hcs⟩ := conv_new s w
  have hno : Hid (Na.num 0 (kb s) = -1 → r = 0 ∧ b = false) := (fun h => by
    have := hr.out
    rw [h, if_neg (by omega)] at this
    simpa using this : Na.num 0 (kb s) = -1 → r = 0 ∧ b = false)
  go_enter Tryd.func25, Tryd.ntmps25
  go_wp2
  have hb : Below w.heap.size w (w.alloc (.cells C 5 (C.size, C.size + 1))) := below_alloc _ _
  have hcell : ∀ j, j < s.size → (w.alloc (.cells C 5 (C.size, C.size + 1))).cell? ⟨w.heap.size, j, none⟩ = some (.int .u8 (((kb s).getD j 0 : Nat) : Int)) := fun j hj => by
    rw [← hcs j hj]
    have : (w.alloc (.cells C 5 (C.size, C.size + 1))).heap[w.heap.size]? = some (.cells C 5 (C.size, C.size + 1)) := heap_alloc_new w _
    simp only [World.cell?, this]
    rfl
  generalize w.alloc (.cells C 5 (C.size, C.size + 1)) = W at *
  clear hconv hcs
  go_loop [4, 10] (fun t i => ∃ j v : Nat, j ≤ s.size ∧ i = .int .i64 j ∧ t = .int .u64 v ∧ v < 10 ^ j ∧ Hid (Na.num 0 (kb s) = Na.num v ((kb s).drop j))) (fun _ i => s.size - (intOf i).toNat)
  case atStart => exact ⟨0, 0, by omega, rfl, rfl, by omega, (by simp : Na.num 0 (kb s) = Na.num 0 ((kb s).drop 0))⟩
  case round =>
    obtain ⟨j, v, hj, rfl, rfl, hv, H⟩ := hrel
    by_cases hlt : j < s.size
    · have i0 : (0 : Int) ≤ (j : Int) := by omega
      have i1 : (j : Int) < (s.size : Int) := by omega
      have hd : Hid ((kb s).drop j = (kb s).getD j 0 :: (kb s).drop (j + 1)) := (by
        rw [List.drop_eq_getElem_cons (by rw [hkl]; exact hlt)]
        congr 1
        simp [hkl, hlt] : (kb s).drop j = (kb s).getD j 0 :: (kb s).drop (j + 1))
      have hc := hcell j hlt
      have hx8 : (kb s).getD j 0 < 256 := by
        rw [show (kb s).getD j 0 = (kb s)[j]'(by rw [hkl]; exact hlt) by simp [hkl, hlt]]
        exact kb_small s _ (List.getElem_mem _)
      generalize (kb s).getD j 0 = x at *
      have hp : 10 ^ j ≤ 10 ^ 9 := Nat.pow_le_pow_right (by omega) (by omega)
      have hv9 : v < 1000000000 := by omega
      clear hcell
      by_cases h1 : x < 48
      · have H' : Hid (Na.num 0 (kb s) = -1) := (by rw [H.out, hd.out, Na.num_cons, if_pos (.inl h1)] : Na.num 0 (kb s) = -1)
        obtain ⟨rfl, rfl⟩ := hno.out H'.out
        clear H hd hr hno
        go_wp2
        go_ret2
        exact ⟨rfl, hb.drew⟩
      · by_cases h2 : 57 < x
        · have H' : Hid (Na.num 0 (kb s) = -1) := (by rw [H.out, hd.out, Na.num_cons, if_pos (.inr h2)] : Na.num 0 (kb s) = -1)
          obtain ⟨rfl, rfl⟩ := hno.out H'.out
          clear H hd hr hno
          go_wp2
          go_ret2
          exact ⟨rfl, hb.drew⟩
        · have H' : Hid (Na.num 0 (kb s) = Na.num (10 * v + (x - 48)) ((kb s).drop (j + 1))) := (by rw [H.out, hd.out, Na.num_cons, if_neg (by omega)] : Na.num 0 (kb s) = Na.num (10 * v + (x - 48)) ((kb s).drop (j + 1)))
          have hvn : 10 * v + (x - 48) < 10 ^ (j + 1) := by rw [Nat.pow_succ]; omega
          clear H hd hno
          go_wp2
          go_round
          case rel => exact ⟨j + 1, 10 * v + (x - 48), by omega, by go_num, val_int (by omega), hvn, H'⟩
          case measure => simp [intOf]; omega
    · obtain rfl : j = s.size := by omega
      have H' : Hid (Na.num 0 (kb s) = (v : Int)) := (by rw [H.out, List.drop_of_length_le (by rw [hkl]; omega)]; rfl : Na.num 0 (kb s) = (v : Int))
      have hp : 10 ^ s.size ≤ 10 ^ 10 := Nat.pow_le_pow_right (by omega) (by omega)
      have hv9 : v < 10000000000 := by omega
      have hr' := hr.out
      rw [H'.out] at hr'
      clear H hcell hno hr
      by_cases h1 : v < 1
      · rw [if_neg (by omega)] at hr'
        simp only [Prod.mk.injEq] at hr'
        obtain ⟨rfl, rfl⟩ := hr'
        clear H'
        go_wp2
        go_ret2
        exact ⟨rfl, hb.drew⟩
      · by_cases h2 : 2147483647 < v
        · rw [if_neg (by omega)] at hr'
          simp only [Prod.mk.injEq] at hr'
          obtain ⟨rfl, rfl⟩ := hr'
          clear H'
          go_wp2
          go_ret2
          exact ⟨rfl, hb.drew⟩
        · rw [if_pos (by omega)] at hr'
          simp only [Prod.mk.injEq] at hr'
          obtain ⟨rfl, rfl⟩ := hr'
          clear H'
          go_wp2
          go_ret2
          exact ⟨rfl, hb.drew⟩

theorem idx_letters (c : Nat) (hc : c < 256) : (Lib.indexByte [118, 119, 116, 115, 109] (UInt8.ofNat c) = -1 ∧ Na.kindOf c = 0) ∨ ∃ k : Nat, k < 5 ∧ Lib.indexByte [118, 119, 116, 115, 109] (UInt8.ofNat c) = (k : Int) ∧ Na.kindOf c = 3 + (k : Int) := by
  have h : ∀ c : Fin 256, (Lib.indexByte [118, 119, 116, 115, 109] (UInt8.ofNat c.val) = -1 ∧ Na.kindOf c.val = 0) ∨ ∃ k : Fin 5, Lib.indexByte [118, 119, 116, 115, 109] (UInt8.ofNat c.val) = (k.val : Int) ∧ Na.kindOf c.val = 3 + (k.val : Int) := by decide +kernel
  rcases h ⟨c, hc⟩ with h | ⟨k, h1, h2⟩
  · exact .inl h
  · exact .inr ⟨k.val, k.isLt, h1, h2⟩

/-- what a text of eleven bytes names -/
theorem parse_eleven {s : List Nat} (hl : s.length = 11) : Na.parse s = if Na.kindOf (s.headD 0) ≠ 0 ∧ 1 ≤ Na.num 0 (s.drop 1) ∧ Na.num 0 (s.drop 1) ≤ 2147483647 then (Na.kindOf (s.headD 0), Na.num 0 (s.drop 1)) else (0, 0) := by
  unfold Na.parse
  rw [if_neg (by intro e; rw [e] at hl; simp [Na.roster] at hl), if_neg (by intro e; rw [e] at hl; simp [Na.rosterNew] at hl)]
  simp only [hl, true_and]
theorem kb_extract (s : ByteArray) (hl : s.size = 11) : kb (s.extract 1 11) = (kb s).drop 1 := by
  simp only [kb, ByteArray.data_extract, Array.toList_extract, List.extract_eq_take_drop, List.drop_one]
  rw [List.take_of_length_le (by simp; have : s.data.size = 11 := hl; omega), List.map_tail]

set_option maxRecDepth 100000 in
set_option maxHeartbeats 1000000 in
theorem numbered_any (s : ByteArray) (w : World) (hl : s.size = 11) :
    Calls Tryd.prog 19 #[.string s] w fun e w' => e = .returned (.tuple #[.agg #[.int .i64 (Na.parse (kb s)).1, .int .i64 (Na.parse (kb s)).2], .bool (nthere (Na.parse (kb s)))]) ∧ Below w.heap.size w w' := by
  have hkl : (kb s).length = 11 := by rw [kb_len, hl]
  rw [parse_eleven hkl]
  have hsz : (s.extract 1 11).size ≤ 10 := by rw [← kb_len, kb_extract s hl, List.length_drop]; omega
  have h0 : 0 < s.size := by omega
  obtain ⟨x, hx⟩ : ∃ x, (s[0]'h0).toNat = x := ⟨_, rfl⟩
  have hx0 : (kb s).headD 0 = x := by
    rw [← hx]
    have : (kb s).head? = some (s[0]'h0).toNat := by
      rw [List.head?_eq_getElem?, List.getElem?_eq_getElem (by omega)]
      simp [kb]; rfl
    rw [List.headD_eq_head?_getD, this]; rfl
  have hx8 : x < 256 := by rw [← hx]; exact (s[0]'h0).toNat_lt
  rw [hx0]
  obtain ⟨N, hN⟩ : ∃ N, N = Na.num 0 ((kb s).drop 1) := ⟨_, rfl⟩
  rw [← hN]
  have H1 := fun W => Tryd.strings_IndexByte ⟨#[118, 119, 116, 115, 109]⟩ (x : Int) W
  have ei : Lib.indexByte ((⟨#[118, 119, 116, 115, 109]⟩ : ByteArray).data.toList) ((x : Int).toNat.toUInt8) = Lib.indexByte [118, 119, 116, 115, 109] (UInt8.ofNat x) := rfl
  rw [ei] at H1
  have hdig := fun (r : Int) (b : Bool) h W => digs_any (s.extract 1 11) W hsz r b h
  rw [kb_extract s hl, ← hN] at hdig
  have i1 : (1 : Int) ≤ (s.size : Int) := by omega
  rcases idx_letters x hx8 with ⟨h1, h2⟩ | ⟨k, h5, h1, h2⟩
  · rw [h1] at H1
    rw [h2, if_neg (by omega)]
    obtain ⟨r, b, hrb⟩ : ∃ (r : Int) (b : Bool), (r, b) = if 1 ≤ N ∧ N ≤ 2147483647 then (N, true) else (0, false) := ⟨_, _, rfl⟩
    have H2 := hdig r b hrb
    clear hdig hrb h1 h2 ei hN hx0 hkl hsz hx8
    go_enter Tryd.func19, Tryd.ntmps19
    go_wp2_with (first
      | (go_at_call 24; go_must (refine (H1 _).mono ?_; rintro e w1 ⟨rfl, hw⟩; subst hw))
      | (go_at_call 25; go_must (refine (H2 _).mono ?_; rintro e w2 ⟨rfl, hbel2⟩; obtain ⟨n0, n1, f0, f1, hbw, hlt⟩ := two_keep hbel2)))
    exact bodyPost_ret (v := .tuple #[.agg #[.int .i64 0, .int .i64 0], .bool false]) (by simp [results, Tryd.results19, go_sem, n0, n1]) rfl ⟨rfl, below_two hbw _ _⟩
  · rw [h1] at H1
    rw [h2]
    by_cases hn : 1 ≤ N ∧ N ≤ 2147483647
    · have H2 := hdig N true (by rw [if_pos hn]; exact rfl)
      rw [if_pos ⟨by omega, hn⟩]
      have ht : nthere ((3 : Int) + k, N) = true := by simp only [nthere, decide_eq_true_eq, Prod.mk.injEq, ne_eq]; omega
      simp only [ht]
      have i2 : IntKind.i64.wrap ((3 : Int) + (k : Int)) = (3 : Int) + (k : Int) := by rw [IntKind.wrap_i64]; omega
      clear hdig h1 h2 ei hN hx0 hkl hsz hx8 ht
      go_enter Tryd.func19, Tryd.ntmps19
      go_wp2_with (first
        | (go_at_call 24; go_must (refine (H1 _).mono ?_; rintro e w1 ⟨rfl, hw⟩; subst hw))
        | (go_at_call 25; go_must (refine (H2 _).mono ?_; rintro e w2 ⟨rfl, hbel2⟩; obtain ⟨n0, n1, f0, f1, hbw, hlt⟩ := two_keep hbel2)))
      exact bodyPost_ret (v := .tuple #[.agg #[.int .i64 ((3 : Int) + (k : Int)), .int .i64 N], .bool true]) (by simp [results, Tryd.results19, go_sem, n0, n1]) rfl ⟨rfl, below_two hbw _ _⟩
    · have H2 := hdig 0 false (by rw [if_neg hn]; exact rfl)
      rw [if_neg (by omega)]
      clear hdig h1 h2 ei hN hx0 hkl hsz hx8 hn
      go_enter Tryd.func19, Tryd.ntmps19
      go_wp2_with (first
        | (go_at_call 24; go_must (refine (H1 _).mono ?_; rintro e w1 ⟨rfl, hw⟩; subst hw))
        | (go_at_call 25; go_must (refine (H2 _).mono ?_; rintro e w2 ⟨rfl, hbel2⟩; obtain ⟨n0, n1, f0, f1, hbw, hlt⟩ := two_keep hbel2)))
      exact bodyPost_ret (v := .tuple #[.agg #[.int .i64 0, .int .i64 0], .bool false]) (by simp [results, Tryd.results19, go_sem, n0, n1]) rfl ⟨rfl, below_two hbw _ _⟩

theorem roster_eq (s : ByteArray) (r : Bool) (h : r = true ↔ kb s = Na.roster) : (s.toList == [114, 111, 115, 116, 101, 114]) = r := by
  rw [← str_eq (t := ⟨#[114, 111, 115, 116, 101, 114]⟩) r h, Lib.toList_data ⟨#[114, 111, 115, 116, 101, 114]⟩]
theorem rosterNew_eq (s : ByteArray) (r : Bool) (h : r = true ↔ kb s = Na.rosterNew) : (s.toList == [114, 111, 115, 116, 101, 114, 46, 110, 101, 119]) = r := by
  rw [← str_eq (t := ⟨#[114, 111, 115, 116, 101, 114, 46, 110, 101, 119]⟩) r h, Lib.toList_data ⟨#[114, 111, 115, 116, 101, 114, 46, 110, 101, 119]⟩]

set_option maxRecDepth 100000 in
set_option maxHeartbeats 1000000 in
theorem nparseC : NParseC := by
  intro s w hl
  have hA := fun (x y : Int) => cell_two w (.int .i64 x) (.int .i64 y) 23 rfl
  by_cases h1 : kb s = Na.roster
  · have e1 := roster_eq s true (by simp [h1])
    rw [show Na.parse (kb s) = (1, 0) by rw [h1]; decide]
    obtain ⟨k0, k1⟩ := hA 1 0
    clear h1 hA
    go_enter Tryd.func10, Tryd.ntmps10
    go_wp2
    exact bodyPost_ret (v := .tuple #[.agg #[.int .i64 1, .int .i64 0], .bool true]) (by simp [results, Tryd.results10, go_sem, k0, k1]) rfl ⟨rfl, below_alloc _ _⟩
  · have e1 := roster_eq s false (by simp [h1])
    by_cases h2 : kb s = Na.rosterNew
    · have e2 := rosterNew_eq s true (by simp [h2])
      rw [show Na.parse (kb s) = (2, 0) by rw [h2]; decide]
      obtain ⟨k0, k1⟩ := hA 2 0
      clear h1 h2 hA
      go_enter Tryd.func10, Tryd.ntmps10
      go_wp2
      exact bodyPost_ret (v := .tuple #[.agg #[.int .i64 2, .int .i64 0], .bool true]) (by simp [results, Tryd.results10, go_sem, k0, k1]) rfl ⟨rfl, below_alloc _ _⟩
    · have e2 := rosterNew_eq s false (by simp [h2])
      by_cases h3 : s.size = 11
      · have H := fun W => numbered_any s W h3
        generalize Na.parse (kb s) = P at *
        generalize nthere P = B at *
        obtain ⟨p1, p2⟩ := P
        simp only at H ⊢
        clear h1 h2 hA
        go_enter Tryd.func10, Tryd.ntmps10
        go_wp2_with (go_at_call 19; go_must (refine (H _).mono ?_; rintro e w2 ⟨rfl, hbel2⟩; obtain ⟨n0, n1, f0, f1, hbw, hlt⟩ := two_keep hbel2))
        exact bodyPost_ret (v := .tuple #[.agg #[.int .i64 p1, .int .i64 p2], .bool B]) (by simp [results, Tryd.results10, go_sem, n0, n1]) rfl ⟨rfl, below_two hbw _ _⟩
      · have e3 : ((s.size : Int) == 11) = false := by simp only [beq_eq_false_iff_ne]; omega
        rw [show Na.parse (kb s) = (0, 0) by unfold Na.parse; rw [if_neg h1, if_neg h2, if_neg (by rw [kb_len]; exact fun h => h3 h.1)]]
        obtain ⟨k0, k1⟩ := hA 0 0
        clear h1 h2 h3 hA
        go_enter Tryd.func10, Tryd.ntmps10
        go_wp2
        exact bodyPost_ret (v := .tuple #[.agg #[.int .i64 0, .int .i64 0], .bool false]) (by simp [results, Tryd.results10, go_sem, k0, k1]) rfl ⟨rfl, below_alloc _ _⟩
end Go.Proofs.YtaikgdgajkggiaaDoor
