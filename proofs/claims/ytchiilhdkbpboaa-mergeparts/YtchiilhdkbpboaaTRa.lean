/- Rows of items; what the reference's May and One of items do. -/
import Derived.Test.YtchiilhdkbpboaaMa
import Derived.Test.YtchiilhdkbpboaaGa
import Derived.Test.YtchiilhdkbpboaaV1
import Derived.Deep.QuietTactic
import Derived.BigQuiet
import Derived.Deep.RegionWith
namespace Go.Proofs.Ytchiilhdkbpboaa
open Go.RowKit

/-- an item as it lies: its key, whether it is dead, its cell with the place of its bytes -/
structure IH where
  key : ByteArray
  dead : Bool
  far : Bool
  a : Option Addr
  n : Nat
  c : Nat
  p : Po.P
def ihz : IH := ⟨⟨#[]⟩, false, false, none, 0, 0, Po.zero⟩
def ih (h : IH) : List Value := [.string h.key, .bool h.dead, .bool h.far, .slice h.a h.n h.c, .int .i64 h.p.1, .int .i64 h.p.2.1, .int .i64 h.p.2.2.1, .int .u32 (h.p.2.2.2 : Nat)]
abbrev iv (h : IH) : Value := .agg #[.string h.key, .bool h.dead, .bool h.far, .slice h.a h.n h.c, .int .i64 h.p.1, .int .i64 h.p.2.1, .int .i64 h.p.2.2.1, .int .u32 (h.p.2.2.2 : Nat)]
theorem ihE : Enc 8 ih := ⟨fun _ => rfl, fun x u hu => by simp only [ih, List.mem_cons, List.not_mem_nil, or_false] at hu; rcases hu with rfl | rfl | rfl | rfl | rfl | rfl | rfl | rfl <;> rfl⟩
theorem itemE : Elem 25 37 8 88 (.agg #[.string ⟨#[]⟩, .bool false, .bool false, .slice none 0 0, .int .i64 0, .int .i64 0, .int .i64 0, .int .u32 0]) := ⟨Try.underlying25, by kernel_rfl, rfl, by decide, by decide⟩
/-- an item's reading -/
structure IsItem (w : World) (h : IH) (x : It.I) : Prop where
  key : kb h.key = x.1
  dead : h.dead = x.2.1
  far : h.far = x.2.2.1
  pt : h.p = x.2.2.2.2
  row : Row .u8 w h.a h.n x.2.2.2.1
  nil : h.a = none → h.n = 0 ∧ h.c = 0
  le : h.n ≤ h.c
  fits : Po.Fits h.p
  ksz : h.key.size ≤ maxLen
theorem IsItem.below {w w' : World} {B : Nat} {h : IH} {x : It.I} (hx : IsItem w h x) (hb : Below B w w') (hB : w.heap.size ≤ B) : IsItem w' h x := ⟨hx.key, hx.dead, hx.far, hx.pt, hx.row.below hb hB, hx.nil, hx.le, hx.fits, hx.ksz⟩
theorem item_zero (w : World) : IsItem w ihz It.zero := ⟨rfl, rfl, rfl, rfl, ⟨rfl, by decide, (fun x hx => by cases hx), .inl rfl⟩, (fun _ => ⟨rfl, rfl⟩), Nat.le_refl _, by unfold ihz Po.Fits; decide, by decide⟩
theorem IsItem.cell {w : World} {h : IH} {x : It.I} (hx : IsItem w h x) : x.2.2 = (h.far, x.2.2.2.1, h.p) := by rw [hx.far, hx.pt]
theorem eight_keep {w W : World} {c0 c1 c2 c3 c4 c5 c6 c7 : Value} {e : TypeId} (h : Below (w.alloc (.cells #[c0, c1, c2, c3, c4, c5, c6, c7] e)).heap.size (w.alloc (.cells #[c0, c1, c2, c3, c4, c5, c6, c7] e)) W) :
    (W.cell? ⟨w.heap.size, 0, none⟩ = some c0 ∧ W.cell? ⟨w.heap.size, 1, none⟩ = some c1 ∧ W.cell? ⟨w.heap.size, 2, none⟩ = some c2 ∧ W.cell? ⟨w.heap.size, 3, none⟩ = some c3 ∧ W.cell? ⟨w.heap.size, 4, none⟩ = some c4 ∧ W.cell? ⟨w.heap.size, 5, none⟩ = some c5 ∧ W.cell? ⟨w.heap.size, 6, none⟩ = some c6 ∧ W.cell? ⟨w.heap.size, 7, none⟩ = some c7) ∧ w.heap.size < W.heap.size ∧ Below w.heap.size w W := by
  have hl : w.heap.size < (w.alloc (.cells #[c0, c1, c2, c3, c4, c5, c6, c7] e)).heap.size := by simp
  have k : ∀ i, W.cell? ⟨w.heap.size, i, none⟩ = #[c0, c1, c2, c3, c4, c5, c6, c7][i]? := fun i => (h.cell (p := ⟨w.heap.size, i, none⟩) hl).trans (cell_new w _ e i)
  exact ⟨⟨k 0, k 1, k 2, k 3, k 4, k 5, k 6, k 7⟩, Nat.lt_of_lt_of_le hl h.size, (below_alloc _ _).trans (h.mono (by simp))⟩

set_option maxRecDepth 100000 in
set_option maxHeartbeats 2000000 in
theorem imay_any (h : IH) (x : It.I) (w : World) (hx : IsItem w h x) :
    Calls Try.prog 34 #[iv h] w fun e w' => e = .returned (.bool (It.may x)) ∧ Below w.heap.size w w' := by
  obtain ⟨R, hR⟩ : ∃ R, R = It.may x := ⟨_, rfl⟩
  rw [← hR]
  have HR : Hid (R = It.may x) := hR
  have hb0 := below_alloc w (.cells #[.string h.key, .bool h.dead, .bool h.far, .slice h.a h.n h.c, .int .i64 h.p.1, .int .i64 h.p.2.1, .int .i64 h.p.2.2.1, .int .u32 (h.p.2.2.2 : Nat)] 37)
  have hmay := fun W => cemay_any h.far h.a h.n h.c x.2.2.2.1 h.p W hx.row.1 hx.row.2.1
  have hsame := fun W (hW : Below w.heap.size w W) => cesame_any h.far h.a h.n h.c x.2.2.2.1 h.p false none 0 0 [] Po.zero W (hx.row.below hW (Nat.le_refl _)) ⟨rfl, by decide, (fun x hx => by cases hx), .inl rfl⟩
  have e1 : Hid (Ce.may (h.far, x.2.2.2.1, h.p) = Ce.may x.2.2) := (by rw [← hx.cell] : Ce.may (h.far, x.2.2.2.1, h.p) = Ce.may x.2.2)
  have e2 : Hid (Ce.same (h.far, x.2.2.2.1, h.p) (false, [], Po.zero) = decide (x.2.2 = Ce.zero)) := (by unfold Ce.same; rw [← hx.cell]; rfl : Ce.same (h.far, x.2.2.2.1, h.p) (false, [], Po.zero) = decide (x.2.2 = Ce.zero))
  rw [e1.out] at hmay
  simp only [e2.out] at hsame
  have hk := hx.key
  have hd := hx.dead
  have hks := hx.ksz
  clear hx e1 e2 hR
  obtain ⟨key, dead, far, a, n, c, ⟨s, y, l, m⟩⟩ := h
  simp only at hk hd hmay hsame hb0 hks
  unfold maxLen at hks
  have hkl : Hid (x.1.length = key.size) := (by rw [← hk, kb_len] : x.1.length = key.size)
  unfold It.may at HR
  by_cases h1 : x.1 = []
  · obtain rfl : R = false := by rw [HR.out]; simp [h1]
    obtain rfl : key = ⟨#[]⟩ := (kb_nil key).mp (hk.trans h1)
    clear HR hmay hsame hk hkl hd
    go_enter Try.func34, Try.ntmps34
    go_wp2
    go_ret
    exact ⟨rfl, hb0⟩
  · have hne : key.toList.isEmpty = false := by rw [isEmpty_kb]; exact decide_eq_false (fun e => h1 (by rw [← hk, e]; rfl))
    by_cases h2 : key.size ≤ 64
    · have d2 : decide ((key.size : Int) ≤ 64) = true := by simp; omega
      have HR2 : Hid (R = (Ce.may x.2.2 && (!x.2.1 || decide (x.2.2 = Ce.zero)))) := (by rw [HR.out]; simp [h1, hkl.out, h2] : R = (Ce.may x.2.2 && (!x.2.1 || decide (x.2.2 = Ce.zero))))
      rw [← hd] at HR2
      clear HR hk hkl h1 hd
      generalize Ce.may x.2.2 = M at *
      generalize decide (x.2.2 = Ce.zero) = Z at *
      cases M with
      | false =>
        obtain rfl : R = false := HR2.out
        clear HR2 hsame
        go_enter Try.func34, Try.ntmps34
        go_wp2_with (go_at_call 42; go_must (refine (hmay _).mono ?_; rintro e w1 ⟨rfl, hb1⟩))
        go_ret
        exact ⟨rfl, hb0.trans (hb1.mono hb0.size)⟩
      | true =>
        cases dead with
        | false =>
          obtain rfl : R = true := HR2.out
          clear HR2 hsame
          go_enter Try.func34, Try.ntmps34
          go_wp2_with (go_at_call 42; go_must (refine (hmay _).mono ?_; rintro e w1 ⟨rfl, hb1⟩; obtain ⟨⟨k0, k1, k2, k3, k4, k5, k6, k7⟩, hlt, hw1⟩ := eight_keep hb1))
          go_ret
          exact ⟨rfl, hb0.trans (hb1.mono hb0.size)⟩
        | true =>
          obtain rfl : R = Z := by rw [HR2.out]; cases Z <;> rfl
          clear HR2
          go_enter Try.func34, Try.ntmps34
          go_wp2_with (first
            | (go_at_call 42; go_must (refine (hmay _).mono ?_; rintro e w1 ⟨rfl, hb1⟩; obtain ⟨⟨k0, k1, k2, k3, k4, k5, k6, k7⟩, hlt, hw1⟩ := eight_keep hb1))
            | (go_at_call 30; go_must (refine (hsame _ hw1).mono ?_; rintro e w2 ⟨rfl, hb2⟩)))
          go_ret
          exact ⟨by simp, hw1.trans (hb2.mono hw1.size)⟩
    · have d2 : decide ((key.size : Int) ≤ 64) = false := by simp; omega
      obtain rfl : R = false := by rw [HR.out]; simp [hkl.out, h2]
      clear HR hmay hsame hk hkl hd
      go_enter Try.func34, Try.ntmps34
      go_wp2
      go_ret
      exact ⟨rfl, hb0⟩

set_option maxRecDepth 100000 in
set_option maxHeartbeats 2000000 in
theorem ione_any (h : IH) (x : It.I) (g : IH) (y : It.I) (w : World) (hx : IsItem w h x) (hy : IsItem w g y) :
    Calls Try.prog 18 #[iv h, iv g] w fun e w' => e = .returned (.bool (It.one x y)) ∧ Below w.heap.size w w' := by
  obtain ⟨R, hR⟩ : ∃ R, R = It.one x y := ⟨_, rfl⟩
  rw [← hR]
  have hsame := fun W (hW : Below w.heap.size w W) => cesame_any h.far h.a h.n h.c x.2.2.2.1 h.p g.far g.a g.n g.c y.2.2.2.1 g.p W (hx.row.below hW (Nat.le_refl _)) (hy.row.below hW (Nat.le_refl _))
  have e2 : Ce.same (h.far, x.2.2.2.1, h.p) (g.far, y.2.2.2.1, g.p) = decide (x.2.2 = y.2.2) := by unfold Ce.same; rw [← hx.cell, ← hy.cell]
  simp only [e2] at hsame
  have HR : Hid (R = (decide (x.1 = y.1) && decide (x.2.1 = y.2.1) && decide (x.2.2 = y.2.2))) := (by rw [hR]; rfl : R = (decide (x.1 = y.1) && decide (x.2.1 = y.2.1) && decide (x.2.2 = y.2.2)))
  have hk : (h.key.toList == g.key.toList) = decide (x.1 = y.1) := str_eq _ (by rw [hx.key, hy.key, decide_eq_true_eq])
  have hd : (h.dead == g.dead) = decide (x.2.1 = y.2.1) := by rw [hx.dead, hy.dead]; by_cases e : x.2.1 = y.2.1 <;> simp [e]
  have hb0 := (below_alloc w (.cells #[.string h.key, .bool h.dead, .bool h.far, .slice h.a h.n h.c, .int .i64 h.p.1, .int .i64 h.p.2.1, .int .i64 h.p.2.2.1, .int .u32 (h.p.2.2.2 : Nat)] 37)).alloc (by simp) (.cells #[.string g.key, .bool g.dead, .bool g.far, .slice g.a g.n g.c, .int .i64 g.p.1, .int .i64 g.p.2.1, .int .i64 g.p.2.2.1, .int .u32 (g.p.2.2.2 : Nat)] 37)
  clear hx hy e2 hR
  obtain ⟨key, dead, far, a, n, c, ⟨s, u, l, m⟩⟩ := h
  obtain ⟨key', dead', far', a', n', c', ⟨s', u', l', m'⟩⟩ := g
  simp only at hk hd hsame hb0
  generalize decide (x.1 = y.1) = K at *
  generalize decide (x.2.1 = y.2.1) = D at *
  generalize decide (x.2.2 = y.2.2) = Z at *
  cases K with
  | false =>
    obtain rfl : R = false := HR.out
    clear HR hsame
    go_enter Try.func18, Try.ntmps18
    go_wp2
    go_ret
    exact ⟨rfl, hb0⟩
  | true =>
    cases D with
    | false =>
      obtain rfl : R = false := HR.out
      clear HR hsame
      go_enter Try.func18, Try.ntmps18
      go_wp2
      go_ret
      exact ⟨rfl, hb0⟩
    | true =>
      obtain rfl : R = Z := by rw [HR.out]; cases Z <;> rfl
      clear HR
      go_enter Try.func18, Try.ntmps18
      go_wp2_with (go_at_call 30; go_must (refine (hsame _ hb0).mono ?_; rintro e w2 ⟨rfl, hb2⟩))
      go_ret
      exact ⟨by simp, hb0.trans (hb2.mono hb0.size)⟩

/-- items as they lie, and what they are -/
def ItAll (w : World) (hs : List IH) (xs : List It.I) : Prop := hs.length = xs.length ∧ ∀ i, i < xs.length → IsItem w (hs.getD i ihz) (xs.getD i It.zero)
theorem ItAll.below {w w' : World} {B : Nat} {hs : List IH} {xs : List It.I} (h : ItAll w hs xs) (hb : Below B w w') (hB : w.heap.size ≤ B) : ItAll w' hs xs := ⟨h.1, fun i hi => (h.2 i hi).below hb hB⟩
theorem ItAll.nil (w : World) : ItAll w [] [] := ⟨rfl, fun i hi => by simp at hi⟩
theorem ItAll.snoc {w : World} {hs : List IH} {xs : List It.I} {h : IH} {x : It.I} (ha : ItAll w hs xs) (hx : IsItem w h x) : ItAll w (hs ++ [h]) (xs ++ [x]) := by
  refine ⟨by simp [ha.1], fun i hi => ?_⟩
  have hl := ha.1
  rw [List.length_append, List.length_singleton] at hi
  rcases Nat.lt_or_ge i xs.length with h' | h'
  · rw [List.getD_eq_getElem?_getD, List.getElem?_append_left (by omega), ← List.getD_eq_getElem?_getD, List.getD_eq_getElem?_getD (l := xs ++ [x]), List.getElem?_append_left h', ← List.getD_eq_getElem?_getD]
    exact ha.2 i h'
  · obtain rfl : i = xs.length := by omega
    rw [show (xs ++ [x]).getD xs.length It.zero = x by simp, ← hl, show (hs ++ [h]).getD hs.length ihz = h by simp]
    exact hx
/-- a slice that reads as items -/
def ItRow (w : World) (a : Option Addr) (n : Nat) (hs : List IH) (xs : List It.I) : Prop := TRow 8 ih ihz w a n hs ∧ ItAll w hs xs
theorem ItRow.below {w w' : World} {B : Nat} {a : Option Addr} {n : Nat} {hs : List IH} {xs : List It.I} (h : ItRow w a n hs xs) (hb : Below B w w') (hB : w.heap.size ≤ B) : ItRow w' a n hs xs := ⟨h.1.below hb hB, h.2.below hb hB⟩
theorem ItRow.len {w : World} {a : Option Addr} {n : Nat} {hs : List IH} {xs : List It.I} (h : ItRow w a n hs xs) : xs.length = n := h.2.1.symm.trans h.1.1
theorem ItRow.item {w : World} {a : Option Addr} {n : Nat} {hs : List IH} {xs : List It.I} (h : ItRow w a n hs xs) {i : Nat} (hi : i < n) : IsItem w (hs.getD i ihz) (xs.getD i It.zero) := h.2.2 i (by rw [h.len]; exact hi)
theorem lit_item (w : World) (h : IH) {g : Nat} (hg : w.heap.size = g) : TRow 8 ih ihz (w.alloc (.cells #[.string h.key, .bool h.dead, .bool h.far, .slice h.a h.n h.c, .int .i64 h.p.1, .int .i64 h.p.2.1, .int .i64 h.p.2.2.1, .int .u32 (h.p.2.2.2 : Nat)] 37)) (some ⟨g, 0, none⟩) 1 [h] :=
  trow_lit w _ _ _ hg (fun j v hj => by
    match j, hj with
    | 0, hj => exact hj
    | 1, hj => exact hj
    | 2, hj => exact hj
    | 3, hj => exact hj
    | 4, hj => exact hj
    | 5, hj => exact hj
    | 6, hj => exact hj
    | 7, hj => exact hj
    | j + 8, hj => simp [ih] at hj)
/-- an item's cells at a place -/
def ICells (w : World) (b o : Nat) (h : IH) : Prop := w.cell? ⟨b, o, none⟩ = some (.string h.key) ∧ w.cell? ⟨b, o + 1, none⟩ = some (.bool h.dead) ∧ w.cell? ⟨b, o + 2, none⟩ = some (.bool h.far) ∧ w.cell? ⟨b, o + 3, none⟩ = some (.slice h.a h.n h.c) ∧ w.cell? ⟨b, o + 4, none⟩ = some (.int .i64 h.p.1) ∧ w.cell? ⟨b, o + 5, none⟩ = some (.int .i64 h.p.2.1) ∧ w.cell? ⟨b, o + 6, none⟩ = some (.int .i64 h.p.2.2.1) ∧ w.cell? ⟨b, o + 7, none⟩ = some (.int .u32 (h.p.2.2.2 : Nat))
theorem ICells.below {w w' : World} {B b o : Nat} {h : IH} (hc : ICells w b o h) (hb : Below B w w') (hB : w.heap.size ≤ B) : ICells w' b o h := by
  obtain ⟨h0, h1, h2, h3, h4, h5, h6, h7⟩ := hc
  have k : ∀ {i : Nat} {v : Value}, w.cell? ⟨b, i, none⟩ = some v → w'.cell? ⟨b, i, none⟩ = some v := fun {i v} hi => (hb.cell (p := ⟨b, i, none⟩) (Nat.lt_of_lt_of_le (cell_lt hi) hB)).trans hi
  exact ⟨k h0, k h1, k h2, k h3, k h4, k h5, k h6, k h7⟩
theorem ItRow.at {w : World} {a : Option Addr} {n : Nat} {hs : List IH} {xs : List It.I} (h : ItRow w a n hs xs) (hn : 0 < n) : ∃ b off, a = some ⟨b, off, none⟩ ∧ ∀ i, i < n → ICells w b (off + i * 8) (hs.getD i ihz) := by
  obtain ⟨b, off, e, hc⟩ := h.1.at hn
  exact ⟨b, off, e, fun i hi => ⟨hc i hi 0 _ rfl, hc i hi 1 _ rfl, hc i hi 2 _ rfl, hc i hi 3 _ rfl, hc i hi 4 _ rfl, hc i hi 5 _ rfl, hc i hi 6 _ rfl, hc i hi 7 _ rfl⟩⟩
end Go.Proofs.Ytchiilhdkbpboaa

/- What the reference's Put of items does. -/
namespace Go.Proofs.Ytchiilhdkbpboaa
open Go.RowKit

def PutRes (w w0 : World) (L : List It.I) (e : Ending) (w' : World) : Prop :=
  ∃ a c hs, e = .returned (.slice a L.length c) ∧ L.length ≤ c ∧ (a = none → L.length = 0 ∧ c = 0) ∧ w'.ownsRow w.heap.size 37 8 (.slice a L.length c) L.length (tcells ih hs) ∧ ItAll w0 hs L ∧ Below w.heap.size w w'

set_option maxRecDepth 100000 in
set_option maxHeartbeats 8000000 in
/-- the items' bytes lie in an elder world w0 -/
theorem iput_any (w0 : World) (a : Option Addr) (len cap : Nat) (gs : List IH) (xs : List It.I) (h : IH) (x : It.I) (w : World) (hlen : len ≤ 100000) (hr : TRow 8 ih ihz w a len gs) (hall : ItAll w0 gs xs) (hx : IsItem w0 h x) :
    Calls Try.prog 29 #[.slice a len cap, iv h] w (PutRes w w0 (It.put xs x)) := by
  have hll : Hid (xs.length = len) := (hall.1.symm.trans hr.1 : xs.length = len)
  have hkx : Hid (kb h.key = x.1) := hx.key
  have Hx : Hid (IsItem w0 h x) := hx
  have Hall : Hid (ItAll w0 gs xs) := hall
  obtain ⟨L, hL⟩ : ∃ L, L = It.put xs x := ⟨_, rfl⟩
  have HL : Hid (L = It.putGo x false xs) := hL
  rw [← hL]
  clear hL hx hall
  obtain ⟨wb, hwb⟩ : ∃ wb, wb = w.alloc (.cells #[.string h.key, .bool h.dead, .bool h.far, .slice h.a h.n h.c, .int .i64 h.p.1, .int .i64 h.p.2.1, .int .i64 h.p.2.2.1, .int .u32 (h.p.2.2.2 : Nat)] 37) := ⟨_, rfl⟩
  have hbox : Hid (∀ W, Below wb.heap.size wb W → ICells W w.heap.size 0 h ∧ Below w.heap.size w W) := (fun W hW => by
    rw [hwb] at hW
    obtain ⟨⟨k0, k1, k2, k3, k4, k5, k6, k7⟩, _, hb⟩ := eight_keep hW
    exact ⟨⟨k0, k1, k2, k3, k4, k5, k6, k7⟩, hb⟩ : ∀ W, Below wb.heap.size wb W → ICells W w.heap.size 0 h ∧ Below w.heap.size w W)
  have hm0 := made_t (s := 8) (enc := ih) wb (B := wb.heap.size) (E := 37) (Nat.le_refl _) rfl
  have hb0 := below_alloc wb (.cells #[] 37)
  have hws : wb.heap.size = w.heap.size + 1 := by rw [hwb]; simp
  have hrow : TRow 8 ih ihz wb a len gs := hr.below (B := w.heap.size) (by rw [hwb]; exact below_alloc _ _) (Nat.le_refl _)
  clear hr
  go_enter Try.func29, Try.ntmps29
  go_wp2
  rw [← hwb, ← hws]
  have Hws : Hid (wb.heap.size = w.heap.size + 1) := hws
  have Hwb := hwb
  clear hws hwb Hwb
  generalize hbx : w.heap.size = bx at *
  go_loopw [5, 6, 7] (fun v t i wr => ∃ (k m c : Nat) (g : Option Addr) (b : Bool) (O : List IH) (P : List It.I), k ≤ len ∧ m ≤ 2 * k ∧ i = .int .i64 k ∧ t = .bool b ∧ v = .slice g m c ∧ m ≤ c ∧ (g = none → m = 0 ∧ c = 0) ∧ Hid (L = P ++ It.putGo x b (xs.drop k)) ∧ Hid (P.length = m) ∧ Hid (ItAll w0 O P) ∧ wr.ownsRow wb.heap.size 37 8 (.slice g m c) m (tcells ih O) ∧ Below wb.heap.size wb wr)
    (fun _ _ i _ => len - (intOf i).toNat)
  case atStart => exact ⟨0, 0, 0, _, false, [], [], by omega, by omega, rfl, rfl, rfl, by omega, (fun h => by cases h), (HL.out : L = [] ++ It.putGo x false (xs.drop 0)), (rfl : ([] : List It.I).length = 0), ItAll.nil _, hm0, hb0⟩
  case round =>
    obtain ⟨k, m, c, g, b, O, P, hk, hmk, rfl, rfl, rfl, hmc, hgn, H, HP, HA, hown, hbel⟩ := hrel
    clear hm0 hb0 HL
    obtain ⟨⟨x0, x1, x2, x3, x4, x5, x6, x7⟩, hw⟩ := hbox.out wr hbel
    by_cases hlt : k < len
    · obtain ⟨bb, off, rfl, hc⟩ : ∃ b off, a = some ⟨b, off, none⟩ ∧ ∀ i, i < len → ICells wb b (off + i * 8) (gs.getD i ihz) := (⟨hrow, Hall.out.below (B := w0.heap.size) (Below.refl _ _) (Nat.le_refl _)⟩ : TRow 8 ih ihz wb a len gs ∧ ItAll w0 gs xs).1.at (by omega) |>.imp (fun b hb => hb.imp (fun off ho => ⟨ho.1, fun i hi => ⟨ho.2 i hi 0 _ rfl, ho.2 i hi 1 _ rfl, ho.2 i hi 2 _ rfl, ho.2 i hi 3 _ rfl, ho.2 i hi 4 _ rfl, ho.2 i hi 5 _ rfl, ho.2 i hi 6 _ rfl, ho.2 i hi 7 _ rfl⟩⟩))
      have hck := hc k hlt
      have C0 : Hid (∀ W, Below wb.heap.size wb W → ICells W bb (off + k * 8) (gs.getD k ihz)) := (fun W hW => hck.below hW (Nat.le_refl _) : ∀ W, Below wb.heap.size wb W → ICells W bb (off + k * 8) (gs.getD k ihz))
      have hst : Hid (L = P ++ ((if b = false ∧ It.ge (xs.getD k It.zero).1 x.1 = true then [x] else []) ++ ((if (xs.getD k It.zero).1 = x.1 then [] else [xs.getD k It.zero]) ++ It.putGo x (b || It.ge (xs.getD k It.zero).1 x.1) (xs.drop (k + 1))))) := (by
        rw [H.out, It.getD_drop (by rw [hll.out]; exact hlt)]; rfl : L = P ++ ((if b = false ∧ It.ge (xs.getD k It.zero).1 x.1 = true then [x] else []) ++ ((if (xs.getD k It.zero).1 = x.1 then [] else [xs.getD k It.zero]) ++ It.putGo x (b || It.ge (xs.getD k It.zero).1 x.1) (xs.drop (k + 1)))))
      have Hy : Hid (IsItem w0 (gs.getD k ihz) (xs.getD k It.zero)) := (Hall.out.2 k (by rw [hll.out]; exact hlt) : IsItem w0 (gs.getD k ihz) (xs.getD k It.zero))
      generalize gs.getD k ihz = q at *
      generalize xs.getD k It.zero = y at *
      have hqk : Hid (kb q.key = y.1) := Hy.out.key
      obtain ⟨y0, y1, y2, y3, y4, y5, y6, y7⟩ := C0.out wr hbel
      have i0 : (0 : Int) ≤ (k : Int) := by omega
      have i1 : (k : Int) < (len : Int) := by omega
      clear H hc hck
      have hless : Op.bytesLess q.key.toList h.key.toList = Na.lt y.1 x.1 := by rw [less_kb, hqk.out, hkx.out]
      have heq : (q.key.toList == h.key.toList) = decide (y.1 = x.1) := str_eq _ (by rw [hqk.out, hkx.out, decide_eq_true_eq])
      have hneq : (q.key.toList != h.key.toList) = !decide (y.1 = x.1) := by rw [bne, heq]
      obtain ⟨B1, hB1⟩ : ∃ B1, B1 = Na.lt y.1 x.1 := ⟨_, rfl⟩
      have hge : It.ge y.1 x.1 = !B1 := by rw [hB1]; rfl
      rw [← hB1] at hless
      rw [hge] at hst
      clear hB1 hge
      by_cases hyx : y.1 = x.1
      · rw [show decide (y.1 = x.1) = true by simp [hyx]] at heq hneq
        rw [if_pos hyx] at hst
        clear hyx
        obtain rfl : B1 = false := by
          have e1 := heq
          rw [beq_iff_eq] at e1
          rw [← hless, e1]
          rw [less_list]
          exact It.lt_irrefl _
        cases b with
        | true =>
          have H2 : Hid (L = P ++ It.putGo x true (xs.drop (k + 1))) := (by rw [hst.out]; simp : L = P ++ It.putGo x true (xs.drop (k + 1)))
          clear hst
          go_wp2_with fail
          go_quiet (fail)
          go_wp2_with fail
          go_quiet (fail)
          go_wp2
          go_roundw
          case rel => exact ⟨k + 1, m, c, g, true, O, P, by omega, by omega, by go_num, rfl, rfl, hmc, hgn, H2, HP, HA, hown, hbel.trans (below_drewN _ _ _)⟩
          case measure => simp [intOf]; omega
        | false =>
          have H2 : Hid (L = (P ++ [x]) ++ It.putGo x true (xs.drop (k + 1))) := (by rw [hst.out]; simp : L = (P ++ [x]) ++ It.putGo x true (xs.drop (k + 1)))
          have HP2 : Hid ((P ++ [x]).length = m + 1) := (by rw [List.length_append, HP.out]; rfl : (P ++ [x]).length = m + 1)
          have HA2 : Hid (ItAll w0 (O ++ [h]) (P ++ [x])) := (HA.out.snoc Hx.out : ItAll w0 (O ++ [h]) (P ++ [x]))
          clear hst
          go_wp2_with fail
          go_quiet (fail)
          have hbq : Below wb.heap.size wb (wr.drewN nq) := hbel.trans (below_drewN _ _ _)
          have hownq := owns_below hown (below_drewN wr.heap.size wr nq)
          obtain ⟨⟨z0, z1, z2, z3, z4, z5, z6, z7⟩, _⟩ := hbox.out _ hbq
          obtain ⟨v0, v1, v2, v3, v4, v5, v6, v7⟩ := C0.out _ hbq
          clear x0 x1 x2 x3 x4 x5 x6 x7 y0 y1 y2 y3 y4 y5 y6 y7
          generalize wr.drewN nq = wq at *
          go_wp2_with (at_builtin; go_must (refine append_t itemE ihE (w0 := wb) (B := wb.heap.size) rfl (.tmp 27) (.tmp 29) rfl _ _ _ rfl (hownq.alloc _) (some ⟨_, 0, none⟩) 1 1 [h] rfl (lit_item wq h rfl) (fun h => by cases h) (by omega) (hbq.alloc hbq.size _) (hbq.alloc hbq.size _).size ?_; intro a2 c2 w2 hc2 hn2 _ hown2 hb2 _))
          have hw2 := hb2
          obtain ⟨⟨r0, r1, r2, r3, r4, r5, r6, r7⟩, _⟩ := hbox.out _ hb2
          obtain ⟨t0, t1, t2, t3, t4, t5, t6, t7⟩ := C0.out _ hb2
          clear z0 z1 z2 z3 z4 z5 z6 z7 v0 v1 v2 v3 v4 v5 v6 v7
          go_quiet (fail)
          have hbq2 : Below wb.heap.size wb (w2.drewN nq) := hb2.trans (below_drewN _ _ _)
          have hownq2 := owns_below hown2 (below_drewN w2.heap.size w2 nq)
          obtain ⟨⟨s0, s1, s2, s3, s4, s5, s6, s7⟩, _⟩ := hbox.out _ hbq2
          obtain ⟨u0, u1, u2, u3, u4, u5, u6, u7⟩ := C0.out _ hbq2
          clear r0 r1 r2 r3 r4 r5 r6 r7 t0 t1 t2 t3 t4 t5 t6 t7
          generalize w2.drewN nq = wp at *
          go_wp2
          go_roundw
          case rel => exact ⟨k + 1, m + 1, c2, a2, true, _, _, by omega, by omega, by go_num, rfl, rfl, hc2, hn2, H2, HP2, HA2, hownq2, hbq2⟩
          case measure => simp [intOf]; omega
      · rw [show decide (y.1 = x.1) = false by simp [hyx]] at heq hneq
        rw [if_neg hyx] at hst
        clear hyx
        cases b with
        | true =>
          have H2 : Hid (L = (P ++ [y]) ++ It.putGo x true (xs.drop (k + 1))) := (by rw [hst.out]; simp : L = (P ++ [y]) ++ It.putGo x true (xs.drop (k + 1)))
          have HP2 : Hid ((P ++ [y]).length = m + 1) := (by rw [List.length_append, HP.out]; rfl : (P ++ [y]).length = m + 1)
          have HA2 : Hid (ItAll w0 (O ++ [q]) (P ++ [y])) := (HA.out.snoc Hy.out : ItAll w0 (O ++ [q]) (P ++ [y]))
          clear hst
          go_wp2_with fail
          go_quiet (fail)
          have hbq : Below wb.heap.size wb (wr.drewN nq) := hbel.trans (below_drewN _ _ _)
          have hownq := owns_below hown (below_drewN wr.heap.size wr nq)
          obtain ⟨⟨z0, z1, z2, z3, z4, z5, z6, z7⟩, _⟩ := hbox.out _ hbq
          obtain ⟨v0, v1, v2, v3, v4, v5, v6, v7⟩ := C0.out _ hbq
          clear x0 x1 x2 x3 x4 x5 x6 x7 y0 y1 y2 y3 y4 y5 y6 y7
          generalize wr.drewN nq = wq at *
          go_wp2_with fail
          go_quiet (fail)
          have hbq2 : Below wb.heap.size wb (wq.drewN nq) := hbq.trans (below_drewN _ _ _)
          have hownq2 := owns_below hownq (below_drewN wq.heap.size wq nq)
          obtain ⟨⟨s0, s1, s2, s3, s4, s5, s6, s7⟩, _⟩ := hbox.out _ hbq2
          obtain ⟨u0, u1, u2, u3, u4, u5, u6, u7⟩ := C0.out _ hbq2
          clear z0 z1 z2 z3 z4 z5 z6 z7 v0 v1 v2 v3 v4 v5 v6 v7
          generalize wq.drewN nq = wp at *
          go_wp2_with (at_builtin; go_must (refine append_t itemE ihE (w0 := wb) (B := wb.heap.size) rfl (.tmp 39) (.tmp 44) rfl _ _ _ rfl (hownq2.alloc _) (some ⟨_, 0, none⟩) 1 1 [q] rfl (lit_item wp q rfl) (fun h => by cases h) (by omega) (hbq2.alloc hbq2.size _) (hbq2.alloc hbq2.size _).size ?_; intro a3 c3 w3 hc3 hn3 _ hown3 hb3 _))
          go_roundw
          case rel => exact ⟨k + 1, m + 1, c3, a3, true, _, _, by omega, by omega, by go_num, rfl, rfl, hc3, hn3, H2, HP2, HA2, hown3, hb3⟩
          case measure => simp [intOf]; omega
        | false =>
          cases B1 with
          | false =>
            have H2 : Hid (L = (P ++ [x] ++ [y]) ++ It.putGo x true (xs.drop (k + 1))) := (by rw [hst.out]; simp : L = (P ++ [x] ++ [y]) ++ It.putGo x true (xs.drop (k + 1)))
            have HP2 : Hid ((P ++ [x] ++ [y]).length = m + 1 + 1) := (by rw [List.length_append, List.length_append, HP.out]; rfl : (P ++ [x] ++ [y]).length = m + 1 + 1)
            have HA2 : Hid (ItAll w0 (O ++ [h] ++ [q]) (P ++ [x] ++ [y])) := ((HA.out.snoc Hx.out).snoc Hy.out : ItAll w0 (O ++ [h] ++ [q]) (P ++ [x] ++ [y]))
            clear hst
            go_wp2_with fail
            go_quiet (fail)
            have hbq : Below wb.heap.size wb (wr.drewN nq) := hbel.trans (below_drewN _ _ _)
            have hownq := owns_below hown (below_drewN wr.heap.size wr nq)
            obtain ⟨⟨z0, z1, z2, z3, z4, z5, z6, z7⟩, _⟩ := hbox.out _ hbq
            obtain ⟨v0, v1, v2, v3, v4, v5, v6, v7⟩ := C0.out _ hbq
            clear x0 x1 x2 x3 x4 x5 x6 x7 y0 y1 y2 y3 y4 y5 y6 y7
            generalize wr.drewN nq = wq at *
            go_wp2_with (at_builtin; go_must (refine append_t itemE ihE (w0 := wb) (B := wb.heap.size) rfl (.tmp 27) (.tmp 29) rfl _ _ _ rfl (hownq.alloc _) (some ⟨_, 0, none⟩) 1 1 [h] rfl (lit_item wq h rfl) (fun h => by cases h) (by omega) (hbq.alloc hbq.size _) (hbq.alloc hbq.size _).size ?_; intro a2 c2 w2 hc2 hn2 _ hown2 hb2 _))
            have hw2 := hb2
            obtain ⟨⟨r0, r1, r2, r3, r4, r5, r6, r7⟩, _⟩ := hbox.out _ hb2
            obtain ⟨t0, t1, t2, t3, t4, t5, t6, t7⟩ := C0.out _ hb2
            clear z0 z1 z2 z3 z4 z5 z6 z7 v0 v1 v2 v3 v4 v5 v6 v7
            go_quiet (fail)
            have hbq2 : Below wb.heap.size wb (w2.drewN nq) := hb2.trans (below_drewN _ _ _)
            have hownq2 := owns_below hown2 (below_drewN w2.heap.size w2 nq)
            obtain ⟨⟨s0, s1, s2, s3, s4, s5, s6, s7⟩, _⟩ := hbox.out _ hbq2
            obtain ⟨u0, u1, u2, u3, u4, u5, u6, u7⟩ := C0.out _ hbq2
            clear r0 r1 r2 r3 r4 r5 r6 r7 t0 t1 t2 t3 t4 t5 t6 t7
            generalize w2.drewN nq = wp at *
            go_wp2_with (at_builtin; go_must (refine append_t itemE ihE (w0 := wb) (B := wb.heap.size) rfl (.tmp 39) (.tmp 44) rfl _ _ _ rfl (hownq2.alloc _) (some ⟨_, 0, none⟩) 1 1 [q] rfl (lit_item wp q rfl) (fun h => by cases h) (by omega) (hbq2.alloc hbq2.size _) (hbq2.alloc hbq2.size _).size ?_; intro a3 c3 w3 hc3 hn3 _ hown3 hb3 _))
            go_roundw
            case rel => exact ⟨k + 1, m + 1 + 1, c3, a3, true, _, _, by omega, by omega, by go_num, rfl, rfl, hc3, hn3, H2, HP2, HA2, hown3, hb3⟩
            case measure => simp [intOf]; omega
          | true =>
            have H2 : Hid (L = (P ++ [y]) ++ It.putGo x false (xs.drop (k + 1))) := (by rw [hst.out]; simp : L = (P ++ [y]) ++ It.putGo x false (xs.drop (k + 1)))
            have HP2 : Hid ((P ++ [y]).length = m + 1) := (by rw [List.length_append, HP.out]; rfl : (P ++ [y]).length = m + 1)
            have HA2 : Hid (ItAll w0 (O ++ [q]) (P ++ [y])) := (HA.out.snoc Hy.out : ItAll w0 (O ++ [q]) (P ++ [y]))
            clear hst
            go_wp2_with fail
            go_quiet (fail)
            have hbq : Below wb.heap.size wb (wr.drewN nq) := hbel.trans (below_drewN _ _ _)
            have hownq := owns_below hown (below_drewN wr.heap.size wr nq)
            obtain ⟨⟨z0, z1, z2, z3, z4, z5, z6, z7⟩, _⟩ := hbox.out _ hbq
            obtain ⟨v0, v1, v2, v3, v4, v5, v6, v7⟩ := C0.out _ hbq
            clear x0 x1 x2 x3 x4 x5 x6 x7 y0 y1 y2 y3 y4 y5 y6 y7
            generalize wr.drewN nq = wq at *
            go_wp2_with fail
            go_quiet (fail)
            have hbq2 : Below wb.heap.size wb (wq.drewN nq) := hbq.trans (below_drewN _ _ _)
            have hownq2 := owns_below hownq (below_drewN wq.heap.size wq nq)
            obtain ⟨⟨s0, s1, s2, s3, s4, s5, s6, s7⟩, _⟩ := hbox.out _ hbq2
            obtain ⟨u0, u1, u2, u3, u4, u5, u6, u7⟩ := C0.out _ hbq2
            clear z0 z1 z2 z3 z4 z5 z6 z7 v0 v1 v2 v3 v4 v5 v6 v7
            generalize wq.drewN nq = wp at *
            go_wp2_with (at_builtin; go_must (refine append_t itemE ihE (w0 := wb) (B := wb.heap.size) rfl (.tmp 39) (.tmp 44) rfl _ _ _ rfl (hownq2.alloc _) (some ⟨_, 0, none⟩) 1 1 [q] rfl (lit_item wp q rfl) (fun h => by cases h) (by omega) (hbq2.alloc hbq2.size _) (hbq2.alloc hbq2.size _).size ?_; intro a3 c3 w3 hc3 hn3 _ hown3 hb3 _))
            go_roundw
            case rel => exact ⟨k + 1, m + 1, c3, a3, false, _, _, by omega, by omega, by go_num, rfl, rfl, hc3, hn3, H2, HP2, HA2, hown3, hb3⟩
            case measure => simp [intOf]; omega
    · obtain rfl : k = len := by omega
      have HE : Hid (L = P ++ (if b then [] else [x])) := (by rw [H.out, List.drop_of_length_le (by rw [hll.out]; omega)]; rfl : L = P ++ (if b then [] else [x]))
      clear H
      cases b with
      | true =>
        obtain rfl : L = P := by rw [HE.out]; simp
        obtain rfl := HP.out
        go_wp2
        go_ret
        exact ⟨g, c, O, rfl, hmc, hgn, hown.mono (by have := Hws.out; omega), HA.out, by rw [hbx]; exact hw⟩
      | false =>
        have HE2 : Hid (L = P ++ [x]) := HE.out
        clear HE
        go_wp2_with (at_builtin; go_must (refine append_t itemE ihE (w0 := wb) (B := wb.heap.size) rfl (.tmp 48) (.tmp 50) rfl _ _ _ rfl (hown.alloc _) (some ⟨_, 0, none⟩) 1 1 [h] rfl (lit_item wr h rfl) (fun h => by cases h) (by omega) (hbel.alloc hbel.size _) (hbel.alloc hbel.size _).size ?_; intro a2 c2 w2 hc2 hn2 _ hown2 hb2 _))
        go_ret
        obtain rfl := HE2.out
        have hl2 : (P ++ [x]).length = m + 1 := by rw [List.length_append, HP.out]; rfl
        exact ⟨a2, c2, O ++ [h], by rw [hl2]; rfl, by rw [hl2]; exact hc2, by rw [hl2]; exact hn2, by rw [hl2]; exact hown2.mono (by have := Hws.out; omega), HA.out.snoc Hx.out, by rw [hbx]; exact (hbox.out _ hb2).2⟩
end Go.Proofs.Ytchiilhdkbpboaa

/- What the reference's All, Get, Scan and Weight of items do. -/
namespace Go.Proofs.Ytchiilhdkbpboaa
open Go.RowKit

/-- a slice of items is told; their bytes lie in w0 -/
def RowRes (w w0 : World) (L : List It.I) (e : Ending) (w' : World) : Prop :=
  ∃ a c hs, e = .returned (.slice a L.length c) ∧ L.length ≤ c ∧ (a = none → L.length = 0 ∧ c = 0) ∧ TRow 8 ih ihz w' a L.length hs ∧ ItAll w0 hs L ∧ Below w.heap.size w w'
theorem TRow.items {w : World} {a : Option Addr} {n : Nat} {hs : List IH} (h : TRow 8 ih ihz w a n hs) (hn : 0 < n) : ∃ b off, a = some ⟨b, off, none⟩ ∧ ∀ i, i < n → ICells w b (off + i * 8) (hs.getD i ihz) := by
  obtain ⟨b, off, e, hc⟩ := h.at hn
  exact ⟨b, off, e, fun i hi => ⟨hc i hi 0 _ rfl, hc i hi 1 _ rfl, hc i hi 2 _ rfl, hc i hi 3 _ rfl, hc i hi 4 _ rfl, hc i hi 5 _ rfl, hc i hi 6 _ rfl, hc i hi 7 _ rfl⟩⟩
theorem It.all_take {xs : List It.I} {k : Nat} (hk : k < xs.length) : It.all (xs.take (k + 1)) = if It.may (xs.getD k It.zero) = true then It.put (It.all (xs.take k)) (xs.getD k It.zero) else It.all (xs.take k) := by
  rw [List.take_succ_eq_append_getElem hk, show xs.getD k It.zero = xs[k] by simp [hk]]
  unfold It.all
  rw [List.filter_append, List.foldl_append]
  by_cases h : It.may xs[k] = true
  · simp [h]
  · simp [h]
theorem It.all_len : ∀ (p l : List It.I), (p.foldl It.put l).length ≤ l.length + p.length
  | [], l => by simp
  | x :: p, l => by
    have h1 := It.all_len p (It.put l x)
    have h2 := It.putGo_len x false l
    rw [List.foldl_cons, List.length_cons]
    have h3 : (It.put l x).length ≤ l.length + 1 := h2
    omega
theorem It.all_length (l : List It.I) : (It.all l).length ≤ l.length := by
  have := It.all_len (l.filter It.may) []
  have h2 := List.length_filter_le It.may l
  unfold It.all
  simp at this
  omega

set_option maxRecDepth 100000 in
set_option maxHeartbeats 2000000 in
theorem iget_any (w0 : World) (a : Option Addr) (len cap : Nat) (gs : List IH) (xs : List It.I) (s : ByteArray) (w : World) (hlen : len ≤ 100000) (hr : TRow 8 ih ihz w a len gs) (hall : ItAll w0 gs xs) :
    Calls Try.prog 16 #[.slice a len cap, .string s] w fun e w' => ∃ h, e = .returned (iv h) ∧ IsItem w0 h (It.get xs (kb s)) ∧ Below w.heap.size w w' := by
  have hll : Hid (xs.length = len) := (hall.1.symm.trans hr.1 : xs.length = len)
  have Hall : Hid (ItAll w0 gs xs) := hall
  obtain ⟨R, hR⟩ : ∃ R, R = It.get xs (kb s) := ⟨_, rfl⟩
  rw [← hR]
  have HR : Hid (R = It.get xs (kb s)) := hR
  obtain ⟨wb, hwb⟩ : ∃ wb, wb = w.alloc (.cells #[.string ⟨#[]⟩, .bool false, .bool false, .slice none 0 0, .int .i64 0, .int .i64 0, .int .i64 0, .int .u32 0] 37) := ⟨_, rfl⟩
  have hbox : Hid (∀ W, Below wb.heap.size wb W → Below w.heap.size w W ∧ w.heap.size < W.heap.size ∧ W.cell? ⟨w.heap.size, 0, none⟩ = some (.string ⟨#[]⟩) ∧ W.cell? ⟨w.heap.size, 1, none⟩ = some (.bool false) ∧ W.cell? ⟨w.heap.size, 2, none⟩ = some (.bool false) ∧ W.cell? ⟨w.heap.size, 3, none⟩ = some (.slice none 0 0) ∧ W.cell? ⟨w.heap.size, 4, none⟩ = some (.int .i64 0) ∧ W.cell? ⟨w.heap.size, 5, none⟩ = some (.int .i64 0) ∧ W.cell? ⟨w.heap.size, 6, none⟩ = some (.int .i64 0) ∧ W.cell? ⟨w.heap.size, 7, none⟩ = some (.int .u32 0) ∧ ∀ i, W.frozen? ⟨w.heap.size, i, none⟩ = false) := (fun W hW => by
    rw [hwb] at hW
    obtain ⟨⟨k0, k1, k2, k3, k4, k5, k6, k7⟩, hl, hb⟩ := eight_keep hW
    exact ⟨hb, hl, k0, k1, k2, k3, k4, k5, k6, k7, fun i => (hW.frozen (p := ⟨w.heap.size, i, none⟩) (by simp)).trans (frozen_new w _ _ i)⟩ : ∀ W, Below wb.heap.size wb W → Below w.heap.size w W ∧ w.heap.size < W.heap.size ∧ W.cell? ⟨w.heap.size, 0, none⟩ = some (.string ⟨#[]⟩) ∧ W.cell? ⟨w.heap.size, 1, none⟩ = some (.bool false) ∧ W.cell? ⟨w.heap.size, 2, none⟩ = some (.bool false) ∧ W.cell? ⟨w.heap.size, 3, none⟩ = some (.slice none 0 0) ∧ W.cell? ⟨w.heap.size, 4, none⟩ = some (.int .i64 0) ∧ W.cell? ⟨w.heap.size, 5, none⟩ = some (.int .i64 0) ∧ W.cell? ⟨w.heap.size, 6, none⟩ = some (.int .i64 0) ∧ W.cell? ⟨w.heap.size, 7, none⟩ = some (.int .u32 0) ∧ ∀ i, W.frozen? ⟨w.heap.size, i, none⟩ = false)
  clear hall hR
  go_enter Try.func16, Try.ntmps16
  go_wp2
  rw [← hwb]
  have hrow : TRow 8 ih ihz wb a len gs := hr.below (B := w.heap.size) (by rw [hwb]; exact below_alloc _ _) (Nat.le_refl _)
  clear hwb hr
  go_loopw [5] (fun i wr => ∃ k : Nat, k ≤ len ∧ i = .int .i64 k ∧ Hid (R = It.get (xs.drop k) (kb s)) ∧ Below wb.heap.size wb wr) (fun i _ => len - (intOf i).toNat)
  case atStart => exact ⟨0, by omega, rfl, (HR.out : R = It.get (xs.drop 0) (kb s)), Below.refl _ _⟩
  case round =>
    obtain ⟨k, hk, rfl, H, hbel⟩ := hrel
    clear HR
    obtain ⟨hw, hlw, x0, x1, x2, x3, x4, x5, x6, x7, hfz⟩ := hbox.out wr hbel
    have f0 := hfz 0
    have f1 := hfz 1
    have f2 := hfz 2
    have f3 := hfz 3
    have f4 := hfz 4
    have f5 := hfz 5
    have f6 := hfz 6
    have f7 := hfz 7
    clear hfz
    by_cases hlt : k < len
    · obtain ⟨bb, off, rfl, hc⟩ := hrow.items (by omega)
      have hck := (hc k hlt).below hbel (Nat.le_refl _)
      have hne : bb ≠ w.heap.size ∨ True := .inr trivial
      have hk' : k < xs.length := by rw [hll.out]; exact hlt
      have hst : Hid (R = if (xs.getD k It.zero).1 = kb s then xs.getD k It.zero else It.get (xs.drop (k + 1)) (kb s)) := (by rw [H.out, It.getD_drop hk']; rfl : R = if (xs.getD k It.zero).1 = kb s then xs.getD k It.zero else It.get (xs.drop (k + 1)) (kb s))
      have Hy : Hid (IsItem w0 (gs.getD k ihz) (xs.getD k It.zero)) := (Hall.out.2 k hk' : IsItem w0 (gs.getD k ihz) (xs.getD k It.zero))
      generalize gs.getD k ihz = q at *
      generalize xs.getD k It.zero = y at *
      have heq : (q.key.toList == s.toList) = decide (y.1 = kb s) := str_eq _ (by rw [Hy.out.key, decide_eq_true_eq])
      obtain ⟨y0, y1, y2, y3, y4, y5, y6, y7⟩ := hck
      have i0 : (0 : Int) ≤ (k : Int) := by omega
      have i1 : (k : Int) < (len : Int) := by omega
      clear H hc hk' hne
      by_cases he : y.1 = kb s
      · rw [show decide (y.1 = kb s) = true by simp [he]] at heq
        obtain rfl : R = y := by rw [hst.out, if_pos he]
        clear hst he
        go_wp2
        exact bodyPost_ret (v := iv q) (by simp [results, Try.results16, go_sem, x0, x1, x2, x3, x4, x5, x6, x7]) rfl ⟨q, rfl, Hy.out, (((((((hw.setCell (Nat.le_refl _) _).setCell (Nat.le_refl _) _).setCell (Nat.le_refl _) _).setCell (Nat.le_refl _) _).setCell (Nat.le_refl _) _).setCell (Nat.le_refl _) _).setCell (Nat.le_refl _) _).setCell (Nat.le_refl _) _⟩
      · rw [show decide (y.1 = kb s) = false by simp [he]] at heq
        have H2 : Hid (R = It.get (xs.drop (k + 1)) (kb s)) := (by rw [hst.out, if_neg he] : R = It.get (xs.drop (k + 1)) (kb s))
        clear hst he
        go_wp2
        go_roundw
        case rel => exact ⟨k + 1, by omega, by go_num, H2, hbel⟩
        case measure => simp [intOf]; omega
    · obtain rfl : k = len := by omega
      obtain rfl : R = It.zero := by rw [H.out, List.drop_of_length_le (by rw [hll.out]; omega)]; rfl
      go_wp2
      exact bodyPost_ret (v := iv ihz) (by simp [results, Try.results16, go_sem, x0, x1, x2, x3, x4, x5, x6, x7, ihz, Po.zero]) rfl ⟨ihz, rfl, item_zero w0, (((((((hw.setCell (Nat.le_refl _) _).setCell (Nat.le_refl _) _).setCell (Nat.le_refl _) _).setCell (Nat.le_refl _) _).setCell (Nat.le_refl _) _).setCell (Nat.le_refl _) _).setCell (Nat.le_refl _) _).setCell (Nat.le_refl _) _⟩
end Go.Proofs.Ytchiilhdkbpboaa

/- What the reference's Scan, Same and Sorted of items do. -/
namespace Go.Proofs.Ytchiilhdkbpboaa
open Go.RowKit

set_option maxRecDepth 100000 in
set_option maxHeartbeats 4000000 in
theorem iscan_any (w0 : World) (a : Option Addr) (len cap : Nat) (gs : List IH) (xs : List It.I) (lo hi : ByteArray) (most : Int) (w : World) (hlen : len ≤ 100000) (hr : TRow 8 ih ihz w a len gs) (hall : ItAll w0 gs xs) :
    Calls Try.prog 17 #[.slice a len cap, .string lo, .string hi, .int .i64 most] w (RowRes w w0 (It.scan xs (kb lo) (kb hi) most)) := by
  have hll : Hid (xs.length = len) := (hall.1.symm.trans hr.1 : xs.length = len)
  have Hall : Hid (ItAll w0 gs xs) := hall
  have hm0 := made_t (s := 8) (enc := ih) w (B := w.heap.size) (E := 37) (Nat.le_refl _) rfl
  have hb0 := below_alloc w (.cells #[] 37)
  obtain ⟨L, hL⟩ : ∃ L, L = It.scan xs (kb lo) (kb hi) most := ⟨_, rfl⟩
  rw [← hL]
  have HL : Hid (L = (xs.filter (It.inside (kb lo) (kb hi))).take most.toNat) := hL
  have hhi : hi.toList.isEmpty = decide (kb hi = []) := by rw [isEmpty_kb]; exact decide_eq_decide.mpr (kb_nil hi).symm
  clear hall hL
  obtain ⟨E0, hE0⟩ : ∃ E0, E0 = decide (kb hi = []) := ⟨_, rfl⟩
  rw [← hE0] at hhi
  have HE0 : Hid (E0 = decide (kb hi = [])) := hE0
  clear hE0
  go_enter Try.func17, Try.ntmps17
  go_wp2
  go_loopw [9, 10] (fun v i wr => ∃ (k m c : Nat) (g : Option Addr) (O : List IH) (P : List It.I), k ≤ len ∧ m ≤ k ∧ i = .int .i64 k ∧ v = .slice g m c ∧ m ≤ c ∧ (g = none → m = 0 ∧ c = 0) ∧ Hid (L = P ++ ((xs.drop k).filter (It.inside (kb lo) (kb hi))).take (most.toNat - m)) ∧ Hid (m ≤ most.toNat) ∧ Hid (P.length = m) ∧ Hid (ItAll w0 O P) ∧ wr.ownsRow w.heap.size 37 8 (.slice g m c) m (tcells ih O) ∧ Below w.heap.size w wr)
    (fun _ i _ => len - (intOf i).toNat)
  case atStart => exact ⟨0, 0, 0, _, [], [], by omega, by omega, rfl, rfl, by omega, (fun h => by cases h), (HL.out : L = [] ++ ((xs.drop 0).filter (It.inside (kb lo) (kb hi))).take (most.toNat - 0)), (Nat.zero_le _ : 0 ≤ most.toNat), (rfl : ([] : List It.I).length = 0), ItAll.nil _, hm0, hb0⟩
  case round =>
    obtain ⟨k, m, c, g, O, P, hk, hmk, rfl, rfl, hmc, hgn, H, HM, HP, HA, hown, hbel⟩ := hrel
    clear hm0 hb0 HL
    by_cases hlt : k < len ∧ (m : Int) < most
    · obtain ⟨bb, off, rfl, hc⟩ := hr.items (by omega)
      obtain ⟨y0, y1, y2, y3, y4, y5, y6, y7⟩ := (hc k hlt.1).below hbel (Nat.le_refl _)
      have hk' : k < xs.length := by rw [hll.out]; exact hlt.1
      have Hy : Hid (IsItem w0 (gs.getD k ihz) (xs.getD k It.zero)) := (Hall.out.2 k hk' : IsItem w0 (gs.getD k ihz) (xs.getD k It.zero))
      have hst : Hid (L = P ++ ((if It.inside (kb lo) (kb hi) (xs.getD k It.zero) = true then xs.getD k It.zero :: (xs.drop (k + 1)).filter (It.inside (kb lo) (kb hi)) else (xs.drop (k + 1)).filter (It.inside (kb lo) (kb hi)))).take (most.toNat - m)) := (by rw [H.out, It.getD_drop hk', List.filter_cons] : L = P ++ ((if It.inside (kb lo) (kb hi) (xs.getD k It.zero) = true then xs.getD k It.zero :: (xs.drop (k + 1)).filter (It.inside (kb lo) (kb hi)) else (xs.drop (k + 1)).filter (It.inside (kb lo) (kb hi)))).take (most.toNat - m))
      generalize gs.getD k ihz = q at *
      generalize xs.getD k It.zero = y at *
      have hl1 : Op.bytesLess q.key.toList lo.toList = Na.lt y.1 (kb lo) := by rw [less_kb, Hy.out.key]
      have hl2 : Op.bytesLess q.key.toList hi.toList = Na.lt y.1 (kb hi) := by rw [less_kb, Hy.out.key]
      have hins : Hid (It.inside (kb lo) (kb hi) y = (!Na.lt y.1 (kb lo) && (E0 || Na.lt y.1 (kb hi)))) := (by rw [HE0.out]; rfl : It.inside (kb lo) (kb hi) y = (!Na.lt y.1 (kb lo) && (E0 || Na.lt y.1 (kb hi))))
      generalize Na.lt y.1 (kb lo) = A at *
      generalize Na.lt y.1 (kb hi) = B at *
      rw [hins.out] at hst
      have i0 : (0 : Int) ≤ (k : Int) := by omega
      have i1 : (k : Int) < (len : Int) := by omega
      have i2 : decide ((m : Int) < most) = true := by simp [hlt.2]
      obtain ⟨j, hj⟩ : ∃ j, most.toNat - m = j + 1 := ⟨most.toNat - m - 1, by omega⟩
      have HM2 : Hid (m + 1 ≤ most.toNat) := (by omega : m + 1 ≤ most.toNat)
      have Hj : Hid (j = most.toNat - (m + 1)) := (by omega : j = most.toNat - (m + 1))
      have Hj2 : Hid (most.toNat - m = j + 1) := hj
      have hyes : Hid ((!A && (E0 || B)) = true → L = (P ++ [y]) ++ ((xs.drop (k + 1)).filter (It.inside (kb lo) (kb hi))).take (most.toNat - (m + 1))) := (fun h => by rw [hst.out, if_pos h, Hj2.out, List.take_succ_cons, Hj.out]; simp : (!A && (E0 || B)) = true → L = (P ++ [y]) ++ ((xs.drop (k + 1)).filter (It.inside (kb lo) (kb hi))).take (most.toNat - (m + 1)))
      have hno : Hid ((!A && (E0 || B)) = false → L = P ++ ((xs.drop (k + 1)).filter (It.inside (kb lo) (kb hi))).take (most.toNat - m)) := (fun h => by rw [hst.out, if_neg (by rw [h]; simp)] : (!A && (E0 || B)) = false → L = P ++ ((xs.drop (k + 1)).filter (It.inside (kb lo) (kb hi))).take (most.toNat - m))
      have HP2 : Hid ((P ++ [y]).length = m + 1) := (by rw [List.length_append, HP.out]; rfl : (P ++ [y]).length = m + 1)
      have HA2 : Hid (ItAll w0 (O ++ [q]) (P ++ [y])) := (HA.out.snoc Hy.out : ItAll w0 (O ++ [q]) (P ++ [y]))
      clear H hst hins hc hk' hj
      cases A with
      | true =>
        have H2 : Hid (L = P ++ ((xs.drop (k + 1)).filter (It.inside (kb lo) (kb hi))).take (most.toNat - m)) := hno.out rfl
        clear hyes hno
        go_wp2
        go_roundw
        case rel => exact ⟨k + 1, m, c, g, O, P, by omega, by omega, by go_num, rfl, hmc, hgn, H2, HM, HP, HA, hown, hbel⟩
        case measure => simp [intOf]; omega
      | false =>
        cases E0 with
        | true =>
          have H2 : Hid (L = (P ++ [y]) ++ ((xs.drop (k + 1)).filter (It.inside (kb lo) (kb hi))).take (most.toNat - (m + 1))) := hyes.out rfl
          clear hyes hno
          go_wp2_with (at_builtin; go_must (refine append_t itemE ihE (w0 := w) (B := w.heap.size) rfl (.tmp 44) (.tmp 49) rfl _ _ _ rfl (hown.alloc _) (some ⟨_, 0, none⟩) 1 1 [q] rfl (lit_item wr q rfl) (fun h => by cases h) (by omega) (hbel.alloc hbel.size _) (hbel.alloc hbel.size _).size ?_; intro a2 c2 w2 hc2 hn2 _ hown2 hb2 _))
          go_roundw
          case rel => exact ⟨k + 1, m + 1, c2, a2, _, _, by omega, by omega, by go_num, rfl, hc2, hn2, H2, HM2, HP2, HA2, hown2, hb2⟩
          case measure => simp [intOf]; omega
        | false =>
          cases B with
          | true =>
            have H2 : Hid (L = (P ++ [y]) ++ ((xs.drop (k + 1)).filter (It.inside (kb lo) (kb hi))).take (most.toNat - (m + 1))) := hyes.out rfl
            clear hyes hno
            go_wp2_with (at_builtin; go_must (refine append_t itemE ihE (w0 := w) (B := w.heap.size) rfl (.tmp 44) (.tmp 49) rfl _ _ _ rfl (hown.alloc _) (some ⟨_, 0, none⟩) 1 1 [q] rfl (lit_item wr q rfl) (fun h => by cases h) (by omega) (hbel.alloc hbel.size _) (hbel.alloc hbel.size _).size ?_; intro a2 c2 w2 hc2 hn2 _ hown2 hb2 _))
            go_roundw
            case rel => exact ⟨k + 1, m + 1, c2, a2, _, _, by omega, by omega, by go_num, rfl, hc2, hn2, H2, HM2, HP2, HA2, hown2, hb2⟩
            case measure => simp [intOf]; omega
          | false =>
            have H2 : Hid (L = P ++ ((xs.drop (k + 1)).filter (It.inside (kb lo) (kb hi))).take (most.toNat - m)) := hno.out rfl
            clear hyes hno
            go_wp2
            go_roundw
            case rel => exact ⟨k + 1, m, c, g, O, P, by omega, by omega, by go_num, rfl, hmc, hgn, H2, HM, HP, HA, hown, hbel⟩
            case measure => simp [intOf]; omega
    · obtain rfl : L = P := by
        rw [H.out]
        by_cases hkl : k < len
        · have : most.toNat - m = 0 := by have := HM.out; omega
          rw [this]; simp
        · rw [List.drop_of_length_le (by rw [hll.out]; omega)]; simp
      obtain rfl := HP.out
      by_cases hkl : k < len
      · have i1 : (k : Int) < (len : Int) := by omega
        have i2 : decide ((L.length : Int) < most) = false := by simp; omega
        clear H
        go_wp2
        go_ret
        exact ⟨g, c, O, rfl, hmc, hgn, trow_of_owns ihE hown (by omega) (by omega), HA.out, hbel⟩
      · have i1 : decide ((k : Int) < (len : Int)) = false := by simp; omega
        have i3 : decide (k < len) = false := by simp; omega
        clear H
        go_wp2
        go_ret
        exact ⟨g, c, O, rfl, hmc, hgn, trow_of_owns ihE hown (by omega) (by omega), HA.out, hbel⟩

theorem It.same_drop {xs ys : List It.I} (hl : xs.length = ys.length) {k : Nat} (hk : k < xs.length) : It.sameGo (xs.drop k) (ys.drop k) = (It.one (xs.getD k It.zero) (ys.getD k It.zero) && It.sameGo (xs.drop (k + 1)) (ys.drop (k + 1))) := by
  have e1 := It.getD_drop (l := xs) hk
  have e2 := It.getD_drop (l := ys) (k := k) (by omega)
  rw [e1, e2]; rfl

set_option maxRecDepth 100000 in
set_option maxHeartbeats 2000000 in
theorem isame_any (w0 w1 : World) (a : Option Addr) (len cap : Nat) (gs : List IH) (xs : List It.I) (a' : Option Addr) (len' cap' : Nat) (gs' : List IH) (ys : List It.I) (w : World) (hr : TRow 8 ih ihz w a len gs) (hall : ItAll w0 gs xs) (hr' : TRow 8 ih ihz w a' len' gs') (hall' : ItAll w1 gs' ys) (hw0 : Below w0.heap.size w0 w) (hw1 : Below w1.heap.size w1 w) :
    Calls Try.prog 14 #[.slice a len cap, .slice a' len' cap'] w fun e w' => e = .returned (.bool (It.sameGo xs ys)) ∧ Below w.heap.size w w' := by
  have hll : Hid (xs.length = len) := (hall.1.symm.trans hr.1 : xs.length = len)
  have hll' : Hid (ys.length = len') := (hall'.1.symm.trans hr'.1 : ys.length = len')
  have hlb := hr.2.1
  have hlb' := hr'.2.1
  obtain ⟨R, hR⟩ : ∃ R, R = It.sameGo xs ys := ⟨_, rfl⟩
  rw [← hR]
  by_cases hne : len = len'
  · subst hne
    have HR : Hid (R = It.sameGo (xs.drop 0) (ys.drop 0)) := hR
    have Hall : Hid (ItAll w0 gs xs) := hall
    have Hall' : Hid (ItAll w1 gs' ys) := hall'
    have d1 : ((len : Int) != (len : Int)) = false := by simp
    clear hR hall hall'
    go_enter Try.func14, Try.ntmps14
    go_wp2
    go_loopw [5] (fun i wr => ∃ k : Nat, k ≤ len ∧ i = .int .i64 k ∧ Hid (R = It.sameGo (xs.drop k) (ys.drop k)) ∧ Below w.heap.size w wr) (fun i _ => len - (intOf i).toNat)
    case atStart => exact ⟨0, by omega, rfl, HR, Below.refl _ _⟩
    case round =>
      obtain ⟨k, hk, rfl, H, hbel⟩ := hrel
      clear HR
      by_cases hlt : k < len
      · obtain ⟨bb, off, rfl, hc⟩ := hr.items (by omega)
        obtain ⟨bb', off', rfl, hc'⟩ := hr'.items (by omega)
        obtain ⟨y0, y1, y2, y3, y4, y5, y6, y7⟩ := (hc k hlt).below hbel (Nat.le_refl _)
        obtain ⟨z0, z1, z2, z3, z4, z5, z6, z7⟩ := (hc' k hlt).below hbel (Nat.le_refl _)
        have hk' : k < xs.length := by rw [hll.out]; exact hlt
        have Hy := Hall.out.2 k hk'
        have Hz := Hall'.out.2 k (by rw [hll'.out]; exact hlt)
        have hst : Hid (R = (It.one (xs.getD k It.zero) (ys.getD k It.zero) && It.sameGo (xs.drop (k + 1)) (ys.drop (k + 1)))) := (by rw [H.out]; exact It.same_drop (by rw [hll.out, hll'.out]) hk' : R = (It.one (xs.getD k It.zero) (ys.getD k It.zero) && It.sameGo (xs.drop (k + 1)) (ys.drop (k + 1))))
        have hone := fun W (hW : Below w.heap.size w W) => ione_any _ _ _ _ W (Hy.below (hw0.trans (hW.mono hw0.size)) (Nat.le_refl _)) (Hz.below (hw1.trans (hW.mono hw1.size)) (Nat.le_refl _))
        generalize gs.getD k ihz = q at *
        generalize gs'.getD k ihz = q' at *
        generalize It.one (xs.getD k It.zero) (ys.getD k It.zero) = B at *
        obtain ⟨key, dead, far, qa, qn, qc, ⟨p1, p2, p3, p4⟩⟩ := q
        obtain ⟨key', dead', far', qa', qn', qc', ⟨p1', p2', p3', p4'⟩⟩ := q'
        simp only at y0 y1 y2 y3 y4 y5 y6 y7 z0 z1 z2 z3 z4 z5 z6 z7 hone
        have i0 : (0 : Int) ≤ (k : Int) := by omega
        have i1 : (k : Int) < (len : Int) := by omega
        clear H hc hc' hk' Hy Hz
        cases B with
        | true =>
          have H2 : Hid (R = It.sameGo (xs.drop (k + 1)) (ys.drop (k + 1))) := hst.out
          clear hst
          go_wp2_with fail
          go_region_with (go_at_call 18; refine (hone _ (hbel.drew)).mono ?_; rintro e w2 ⟨rfl, hb2⟩)
          all_goals
            go_wp2
            go_roundw
            case rel => exact ⟨k + 1, by omega, by go_num, H2, hbel.trans ((below_of_drew hb2).mono hbel.size)⟩
            case measure => simp [intOf]; omega
        | false =>
          obtain rfl : R = false := hst.out
          clear hst
          go_wp2_with fail
          go_region_with (go_at_call 18; refine (hone _ (hbel.drew)).mono ?_; rintro e w2 ⟨rfl, hb2⟩)
          all_goals
            go_wp2
            go_ret
            exact ⟨rfl, hbel.trans ((below_of_drew hb2).mono hbel.size)⟩
      · obtain rfl : k = len := by omega
        obtain rfl : R = true := by rw [H.out, List.drop_of_length_le (by rw [hll.out]; omega), List.drop_of_length_le (by rw [hll'.out]; omega)]; rfl
        go_wp2
        go_ret
        exact ⟨rfl, hbel⟩
  · have d1 : ((len : Int) != (len' : Int)) = true := by simp; omega
    have d2 : (len != len') = true := by simp; omega
    obtain rfl : R = false := by
      rw [hR]
      cases h : It.sameGo xs ys with
      | false => rfl
      | true => exact absurd (by rw [← hll.out, ← hll'.out, (It.sameGo_iff xs ys).mp h]) hne
    clear hR hall hall'
    go_enter Try.func14, Try.ntmps14
    go_wp2
    go_ret
    exact ⟨rfl, Below.refl _ _⟩
end Go.Proofs.Ytchiilhdkbpboaa

/- What is asked of the program's own trees; awake, Light, made. -/
namespace Go.Proofs.Ytchiilhdkbpboaa
open Go.RowKit

/-- of what was there nothing has turned but the blocks of a set -/
structure Only (S : Nat → Prop) (w w' : World) : Prop where
  os : w'.os = w.os
  tape : w'.tape = w.tape
  output : w'.output = w.output
  size : w.heap.size ≤ w'.heap.size
  block : ∀ k, k < w.heap.size → ¬ S k → w'.heap[k]? = w.heap[k]?
theorem Only.below {S : Nat → Prop} {w0 w w' : World} {B : Nat} (h : Only S w w') (hS : ∀ k, S k → B ≤ k) (hb : Below B w0 w) (hB : B ≤ w.heap.size) : Below B w0 w' :=
  hb.trans ⟨h.os, h.tape, h.output, h.size, fun k hk => h.block k (by omega) (fun hs => by have := hS k hs; omega)⟩
/-- a slice of items as it may come in -/
def InI (w : World) (a : Option Addr) (n c : Nat) (hs : List IH) (xs : List It.I) : Prop := ItRow w a n hs xs ∧ (a = none → n = 0 ∧ c = 0) ∧ n ≤ c
theorem InI.below {w w' : World} {B : Nat} {a : Option Addr} {n c : Nat} {hs : List IH} {xs : List It.I} (h : InI w a n c hs xs) (hb : Below B w w') (hB : w.heap.size ≤ B) : InI w' a n c hs xs := ⟨h.1.below hb hB, h.2⟩
/-- a slice of items is told -/
def TAllRes (w : World) (L : List It.I) (e : Ending) (w' : World) : Prop :=
  ∃ a c hs, e = .returned (.slice a L.length c) ∧ InI w' a L.length c hs L ∧ Below w.heap.size w w'

end Go.Proofs.Ytchiilhdkbpboaa
