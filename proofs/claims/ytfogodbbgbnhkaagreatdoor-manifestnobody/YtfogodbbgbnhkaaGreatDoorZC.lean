/- All bytes of a file. -/
import Derived.Test.YtfogodbbgbnhkaaGreatDoorDKP
import Derived.Laws.CopyOwn
import Derived.Test.YtfogodbbgbnhkaaGreatDoorGa
import Derived.Shelf.Abstract
namespace Go.Proofs.YtfogodbbgbnhkaaGreatDoor
open Go.RowKit

theorem u8_s : (Tryz.prog.info? 5).map (·.size) = some 1 := by kernel_rfl
/-- copy onto a piece of a block -/
theorem zcopy_on (W : World) (dT sT ty elem e : TypeId) (hu : Tryz.prog.underlying dT = some (.slice elem)) (hs : (Tryz.prog.info? elem).map (·.size) = some 1) (R F n dcap : Nat) (sp : Option Addr) (scap : Nat) (cs ys : List Value) (hn : cs.length = n)
    (hR : W.heap[R]? = some (.cells ys.toArray e (0, 0))) (hsrc : 0 < n → ∃ ad, sp = some ad ∧ ∀ (j : Nat) (v : Value), cs[j]? = some v → W.cell? (ad.add j) = some v) (hfit : F + n ≤ ys.length) (h1 : ∀ v ∈ cs, v.oneCell' = true) :
    ∃ W4, (Builtin.copy_ #[dT, sT] ty #[.slice (some ⟨R, F, none⟩) n dcap, .slice sp n scap]).run Tryz.prog W = .ok (.int .i64 (n : Int)) W4 ∧ Hid (W4.heap[R]? = some (.cells (splice ys F cs).toArray e (0, 0))) ∧ Below R W W4 := by
  by_cases h0 : n = 0
  · subst h0
    obtain rfl : cs = [] := List.eq_nil_of_length_eq_zero hn
    exact ⟨W, run_copy_none W dT sT ty elem _ _ 0 dcap 0 scap hu hs rfl, (by simpa [splice] using hR : W.heap[R]? = some (.cells (splice ys F []).toArray e (0, 0))), Below.refl _ _⟩
  · obtain ⟨ad, rfl, hsr⟩ := hsrc (by omega)
    have hrun := run_copy_row (P := Tryz.prog) W dT sT ty elem R F n dcap ad n scap ys.toArray e cs hu hs hR (by rw [hn]; exact (Nat.min_self n).symm) hsr (by simpa [hn] using hfit) h1
    rw [hn] at hrun
    refine ⟨_, hrun, ?_, below_setRow (Below.refl _ _) (Nat.le_refl _) _⟩
    have := setRow_heap W R ys.toArray (ys.toArray.toList.take F ++ cs ++ ys.toArray.toList.drop (F + n)).toArray e (0, 0) hR
    rw [show splice ys F cs = ys.toArray.toList.take F ++ cs ++ ys.toArray.toList.drop (F + n) by simp [splice, hn]]
    exact this
theorem own_ys {w : World} {B e n g : Nat} {xs : List Value} (h : w.ownsRow B e 1 (.slice (some ⟨g, 0, none⟩) n n) n xs) : ∃ ys : List Value, w.heap[g]? = some (.cells ys.toArray e (0, 0)) ∧ ys.length = n := by
  rcases h.2 with ⟨h0, _⟩ | ⟨g', cap, cur, e', _, hg, _, _, hs, _⟩
  · cases h0
  · cases e'
    exact ⟨cur.toList, by simpa using hg, by simpa using hs⟩
theorem row_splice {w : World} {g e n : Nat} {ys : List Value} {bs : List Nat} (hg : w.heap[g]? = some (.cells (splice ys 0 (kcells .u8 bs)).toArray e (0, 0))) (hy : ys.length = n) (hb : bs.length = n) (hs : ∀ x ∈ bs, x < 256) (hn : n ≤ 100000) : Row .u8 w (some ⟨g, 0, none⟩) n bs := by
  have hk : (kcells .u8 bs).length = n := by simp [kcells, hb]
  have he : splice ys 0 (kcells .u8 bs) = kcells .u8 bs := by unfold splice; rw [hk]; simp [← hy]
  rw [he] at hg
  refine ⟨hb, by omega, hs, .inr ⟨g, 0, rfl, fun i hi => ?_⟩⟩
  simp only [World.cell?, hg]
  have hi' : i < bs.length := by omega
  simp [kcells, hi']
set_option maxRecDepth 100000 in
set_option maxHeartbeats 2000000 in
/-- all bytes of a file that has some -/
theorem readD_any {w : World} {p : Nat} {D : Dk.D} {S : Nat → Prop} (h : DK w p D S) (s : ByteArray) (n : Nat) (k : Nat) (f : Dk.F) (hf : Dk.find D s = some (k, f)) (hn : f.bs.length = n) (hn0 : 0 < n) (hn1 : n ≤ 100000) (hd : D.dead = false) :
    Calls Tryz.prog 46 #[.pointer (some ⟨p, 0, none⟩), .string s, .int .i64 0, .int .i64 n] w fun e w' => e = .returned (.tuple #[.slice (some ⟨w.heap.size, 0, none⟩) n n, .int .i64 0]) ∧ Row .u8 w' (some ⟨w.heap.size, 0, none⟩) n f.bs ∧ Below w.heap.size w w' := by
  obtain ⟨hO, fm, nm, sm, tv, J, hP, hS⟩ := h
  have hdead := dead_any hP
  rw [hd] at hdead
  rcases hP.findJ hO s with ⟨e1, e2⟩ | ⟨m, x, f', e1, e2, e3, e4⟩
  · rw [e1] at hf; cases hf
  · have hff : f' = f := by rw [e1] at hf; cases hf; rfl
    subst hff
    have hfd := find_some hP s e2 e3
    have hfdd := hfd
    have hx := hP.each _ (look_mem e3)
    obtain ⟨a, c, hv, hr⟩ := t_shape hx.row
    obtain ⟨c0, c1, _⟩ := hx.cells
    simp only at c0 c1 hv
    rw [hv] at c0
    subst hn
    generalize hnn : f'.bs.length = n at *
    have hfl : Hid (f'.bs.length = n) := hnn
    have hown : w.ownsRow 0 5 1 (.slice a n c) n (kcells .u8 f'.bs) := by have := hx.row; simp only at this; rw [hnn, hv] at this; exact this
    have hsmall := hx.small
    clear hnn
    obtain ⟨g, hg⟩ : ∃ g, a = some ⟨g, 0, none⟩ := by
      rcases hown.2 with ⟨e, h0⟩ | ⟨g, cap, cur, e, _, _, _, _⟩
      · omega
      · cases e; exact ⟨g, rfl⟩
    subst hg
    have hlt := (own_lt hown).1
    have hq0 : x.q < w.heap.size := heap_lt hx.blk
    obtain ⟨i0, hi0, hz0, hz1, hz2⟩ := info_parts Tryz.info5
    have hmin : min (0 : Int) (n : Int) = 0 := by omega
    have HO : Hid (w.ownsRow 0 5 1 (.slice (some ⟨g, 0, none⟩) n c) n (kcells .u8 f'.bs)) := hown
    have HS : Hid (∀ x ∈ f'.bs, x < 256) := hsmall
    have d1 : ¬ ((n : Int) < 0) := by omega
    have d2 : decide ((n : Int) < 0) = false := by simp
    clear hx e3 e4 e2 e1 hf hv hfd hO hS hown hsmall
    go_enter Tryz.func46, Tryz.ntmps46
    go_wp2_with (first
      | (go_at_call 19; go_must (refine hdead.mono ?_; rintro e w1 ⟨rfl, hw⟩; rw [hw]; clear hw w1))
      | (go_at_call 56; go_must (refine hfdd.mono ?_; rintro e w1 ⟨rfl, m, hw⟩; subst hw)))
    have hbd := below_drewN w.heap.size w m
    have hown2 := owns_below HO.out hbd
    have hsz : (w.drewN m).heap.size = w.heap.size := rfl
    go_quiet (fail)
    have hsr : ∀ W, Below w.heap.size w W → ∀ (j : Nat) (v : Value), (kcells .u8 f'.bs)[j]? = some v → W.cell? ((⟨g, 0, none⟩ : Addr).add j) = some v := fun W hb j v hj => by
      have e : (⟨g, 0, none⟩ : Addr).add j = ⟨g, j, none⟩ := by
        by_cases h0 : j = 0
        · subst h0; rfl
        · simp [Addr.add, h0]
      rw [e]
      exact (own_cells (owns_below HO.out hb) hj).1
    have HSR : Hid (∀ W, Below w.heap.size w W → ∀ (j : Nat) (v : Value), (kcells .u8 f'.bs)[j]? = some v → W.cell? ((⟨g, 0, none⟩ : Addr).add j) = some v) := hsr
    clear hsr hown2 hP hr
    have hkl : Hid ((kcells .u8 f'.bs).length = n) := (by rw [kcells, List.length_map]; exact hfl.out : _ = n)
    have h1c : Hid (∀ v ∈ kcells .u8 f'.bs, v.oneCell' = true) := (fun v hv => by obtain ⟨x, _, rfl⟩ := List.mem_map.1 hv; rfl : ∀ v ∈ kcells .u8 f'.bs, v.oneCell' = true)
    go_wp2_with (at_make; go_must (refine make_full _ rfl _ _ 67 rfl w.heap.size 5 i0 _ 1 Tryz.underlying67 hi0 hz0 hz1 .i64 .i64 n rfl rfl (by rw [hz2]; omega) (by unfold maxLen; omega) (Nat.le_refl _) ?_; intro w2 hmade hbel2'; have hbel2 : Below w.heap.size w w2 := (below_drewN w.heap.size w _).trans hbel2'; obtain ⟨ys, hg2, hyl⟩ := own_ys hmade; have HYL : Hid (ys.length = n) := hyl; clear hmade hyl; obtain ⟨W4, hrun, hR4, hb4⟩ := zcopy_on w2 67 67 3 5 5 Tryz.underlying67 u8_s w.heap.size 0 n n (some ⟨g, 0, none⟩) c (kcells .u8 f'.bs) ys hkl.out hg2 (fun _ => ⟨_, rfl, HSR.out _ hbel2⟩) (by rw [HYL.out]; omega) h1c.out; have hbe : Below w.heap.size w W4 := hbel2.trans (hb4.mono (Nat.le_refl _))))
    go_ret2
    exact ⟨rfl, row_splice hR4.out HYL.out hfl.out HS.out hn1, hbe⟩
end Go.Proofs.YtfogodbbgbnhkaaGreatDoor

/- Names of the two files that a manifest has. -/
namespace Go.Proofs.YtfogodbbgbnhkaaGreatDoor
open Go.RowKit

def sRoster : ByteArray := ⟨#[114, 111, 115, 116, 101, 114]⟩
def sFresh : ByteArray := ⟨#[114, 111, 115, 116, 101, 114, 46, 110, 101, 119]⟩

theorem zof_any (b : Bool) (w : World) :
    Calls Tryz.prog 143 #[.agg #[.int .i64 (if b then 2 else 1), .int .i64 0]] w fun e w' => e = .returned (.tuple #[.string (if b then sFresh else sRoster), .int .i64 0]) ∧ Below w.heap.size w w' := by
  have hb := fun o => below_alloc w o
  cases b with
  | false =>
    simp only [Bool.false_eq_true, if_false]
    go_enter Tryz.func143, Tryz.ntmps143
    go_wp2
    go_ret2
    exact ⟨rfl, hb _⟩
  | true =>
    simp only [if_true]
    go_enter Tryz.func143, Tryz.ntmps143
    go_wp2
    go_ret2
    exact ⟨rfl, hb _⟩

theorem znameof_any (b : Bool) (w : World) :
    Calls Tryz.prog 88 #[.int .i64 (if b then 2 else 1)] w fun e w' => e = .returned (.string (if b then sFresh else sRoster)) ∧ Below w.heap.size w w' := by
  have ho := zof_any b w
  generalize (if b then (2 : Int) else 1) = k at *
  generalize (if b then sFresh else sRoster) = s at *
  go_enter Tryz.func88, Tryz.ntmps88
  go_wp2_with (go_at_call 143; go_must (refine ho.mono ?_; rintro e w1 ⟨rfl, hb⟩))
  go_ret
  exact ⟨rfl, hb⟩
theorem zroster_any (w : World) : Calls Tryz.prog 42 #[] w fun e w' => e = .returned (.string sRoster) ∧ Below w.heap.size w w' := by
  have ho := znameof_any false w
  simp only [Bool.false_eq_true, if_false] at ho
  generalize sRoster = s at *
  go_enter Tryz.func42, Tryz.ntmps42
  go_wp2_with (go_at_call 88; go_must (refine ho.mono ?_; rintro e w1 ⟨rfl, hb⟩))
  go_ret
  exact ⟨rfl, hb⟩
theorem zfresh_any (w : World) : Calls Tryz.prog 37 #[] w fun e w' => e = .returned (.string sFresh) ∧ Below w.heap.size w w' := by
  have ho := znameof_any true w
  simp only [if_true] at ho
  generalize sFresh = s at *
  go_enter Tryz.func37, Tryz.ntmps37
  go_wp2_with (go_at_call 88; go_must (refine ho.mono ?_; rintro e w1 ⟨rfl, hb⟩))
  go_ret
  exact ⟨rfl, hb⟩

/-- one thing is handed on -/
theorem zone_any (F : FuncId) (p : Nat) (s : ByteArray) (w : World) :
    Calls Tryz.prog 38 #[.func (.func F) #[.pointer (some ⟨p, 0, none⟩)] #[], .string s] w fun e w' => e = .returned (.func (.func 89) #[] #[.pointer (some ⟨w.heap.size, 0, none⟩), .pointer (some ⟨w.heap.size + 1, 0, none⟩)]) ∧ w' = (w.alloc (.cells #[.func (.func F) #[.pointer (some ⟨p, 0, none⟩)] #[]] 94)).alloc (.cells #[.string s] 9) := by
  go_enter Tryz.func38, Tryz.ntmps38
  go_wp2
  go_ret
  exact ⟨rfl, rfl⟩
/-- two things are handed on -/
theorem ztwo_any (F : FuncId) (p : Nat) (s : ByteArray) (a : Option Addr) (n c : Nat) (w : World) :
    Calls Tryz.prog 35 #[.func (.func F) #[.pointer (some ⟨p, 0, none⟩)] #[], .string s, .slice a n c] w fun e w' => e = .returned (.func (.func 82) #[] #[.pointer (some ⟨w.heap.size, 0, none⟩), .pointer (some ⟨w.heap.size + 1, 0, none⟩), .pointer (some ⟨w.heap.size + 1 + 1, 0, none⟩)]) ∧ w' = ((w.alloc (.cells #[.func (.func F) #[.pointer (some ⟨p, 0, none⟩)] #[]] 91)).alloc (.cells #[.string s] 9)).alloc (.cells #[.slice a n c] 67) := by
  go_enter Tryz.func35, Tryz.ntmps35
  go_wp2
  go_ret
  exact ⟨rfl, rfl⟩

set_option maxRecDepth 100000 in
theorem zone_do (F : FuncId) (p b1 b2 : Nat) (s : ByteArray) (w : World) (Q : World → Prop) (eg : ∀ args w, (callFunc F args).run Tryz.prog w = .ok (.enter F args) w) (h1 : w.cell? ⟨b1, 0, none⟩ = some (.func (.func F) #[.pointer (some ⟨p, 0, none⟩)] #[])) (h2 : w.cell? ⟨b2, 0, none⟩ = some (.string s))
    (h : Calls Tryz.prog F #[.pointer (some ⟨p, 0, none⟩), .string s] w fun e w' => e = .returned (.int .i64 0) ∧ Q w') :
    Calls Tryz.prog 89 #[.pointer (some ⟨b1, 0, none⟩), .pointer (some ⟨b2, 0, none⟩)] w fun e w' => e = .returned (.int .i64 0) ∧ Q w' := by
  go_enter Tryz.func89, Tryz.ntmps89
  go_wp2_with (go_at_fn F; go_must (refine h.mono ?_; rintro e w1 ⟨rfl, hq⟩))
  go_ret
  exact ⟨rfl, hq⟩
set_option maxRecDepth 100000 in
theorem ztwo_do (F : FuncId) (p b1 b2 b3 : Nat) (s : ByteArray) (a : Option Addr) (n c : Nat) (w : World) (Q : World → Prop) (eg : ∀ args w, (callFunc F args).run Tryz.prog w = .ok (.enter F args) w) (h1 : w.cell? ⟨b1, 0, none⟩ = some (.func (.func F) #[.pointer (some ⟨p, 0, none⟩)] #[])) (h2 : w.cell? ⟨b2, 0, none⟩ = some (.string s)) (h3 : w.cell? ⟨b3, 0, none⟩ = some (.slice a n c))
    (h : Calls Tryz.prog F #[.pointer (some ⟨p, 0, none⟩), .string s, .slice a n c] w fun e w' => e = .returned (.int .i64 0) ∧ Q w') :
    Calls Tryz.prog 82 #[.pointer (some ⟨b1, 0, none⟩), .pointer (some ⟨b2, 0, none⟩), .pointer (some ⟨b3, 0, none⟩)] w fun e w' => e = .returned (.int .i64 0) ∧ Q w' := by
  go_enter Tryz.func82, Tryz.ntmps82
  go_wp2_with (go_at_fn F; go_must (refine h.mono ?_; rintro e w1 ⟨rfl, hq⟩))
  go_ret
  exact ⟨rfl, hq⟩
end Go.Proofs.YtfogodbbgbnhkaaGreatDoor

/- Acts that are yet to be done. -/
namespace Go.Proofs.YtfogodbbgbnhkaaGreatDoor
open Go.RowKit

set_option maxRecDepth 100000 in
set_option maxHeartbeats 1000000 in
/-- all of them are done, one behind the other -/
theorem zdoall_any (n g c : Nat) (w : World) (hn : n ≤ 1000) (I : Nat → World → Prop) (h0 : I 0 w)
    (hstep : ∀ (j : Nat) (W : World), j < n → I j W → ∃ (fid : FuncId) (bnd caps : Array Value), (∀ args w, (callFunc fid args).run Tryz.prog w = .ok (.enter fid args) w) ∧ W.cell? ⟨g, j, none⟩ = some (.func (.func fid) bnd caps) ∧ Calls Tryz.prog fid (bnd ++ #[] ++ caps) W fun e W' => e = .returned (.int .i64 0) ∧ I (j + 1) W') :
    Calls Tryz.prog 22 #[.slice (some ⟨g, 0, none⟩) n c] w fun e w' => e = .returned (.tuple #[.int .i64 n, .int .i64 0]) ∧ I n w' := by
  go_enter Tryz.func22, Tryz.ntmps22
  go_wp2
  go_loopw [9] (fun i wr => ∃ k : Nat, k ≤ n ∧ i = .int .i64 k ∧ I k wr) (fun i _ => n - (intOf i).toNat)
  case atStart => exact ⟨0, by omega, rfl, h0⟩
  case round =>
    obtain ⟨k, hk, rfl, hIk⟩ := hrel
    by_cases hlt : k < n
    · obtain ⟨fid, bnd, caps, eg, hc, hd⟩ := hstep k wr hlt hIk
      have i0 : (0 : Int) ≤ (k : Int) := by omega
      have i1 : (k : Int) < (n : Int) := by omega
      go_wp2_with (go_at_fn fid; go_must (refine hd.mono ?_; rintro e w3 ⟨rfl, hI3⟩))
      go_roundw
      case rel => exact ⟨k + 1, by omega, by go_num, hI3⟩
      case measure => simp [intOf]; omega
    · obtain rfl : k = n := by omega
      go_wp2
      go_ret2
      exact ⟨rfl, hIk⟩
theorem zdoall_none (w : World) : Calls Tryz.prog 22 #[.slice none 0 0] w fun e w' => e = .returned (.tuple #[.int .i64 0, .int .i64 0]) ∧ w' = w := by
  go_enter Tryz.func22, Tryz.ntmps22
  go_wp2
  go_loopw [9] (fun i wr => i = .int .i64 0 ∧ wr = w) (fun i _ => 0)
  case atStart => exact ⟨rfl, rfl⟩
  case round =>
    obtain ⟨rfl, rfl⟩ := hrel
    go_wp2
    go_ret2
    exact ⟨rfl, rfl⟩
end Go.Proofs.YtfogodbbgbnhkaaGreatDoor

/- Rows of acts; the bytes of a manifest's file, and what mends it. -/
namespace Go.Proofs.YtfogodbbgbnhkaaGreatDoor
open Go.RowKit

theorem DK.on {w w1 : World} {p : Nat} {D : Dk.D} {S : Nat → Prop} (h : DK w p D S) (hb : Below w.heap.size w w1) : DK w1 p D S := h.keep (fun k hk _ => hb.block k hk) (fun _ _ h => h)
theorem dsize_no {w : World} {p : Nat} {D : Dk.D} {S : Nat → Prop} (h : DK w p D S) (s : ByteArray) (hf : Dk.find D s = none) :
    Calls Tryz.prog 45 #[.pointer (some ⟨p, 0, none⟩), .string s] w fun e w' => e = .returned (.tuple #[.int .i64 0, .bool false]) ∧ Below w.heap.size w w' := by
  have := dsize_any h s
  rw [hf] at this
  exact this
theorem dsize_yes {w : World} {p n k : Nat} {f : Dk.F} {D : Dk.D} {S : Nat → Prop} (h : DK w p D S) (s : ByteArray) (hf : Dk.find D s = some (k, f)) (hn : f.bs.length = n) :
    Calls Tryz.prog 45 #[.pointer (some ⟨p, 0, none⟩), .string s] w fun e w' => e = .returned (.tuple #[.int .i64 n, .bool true]) ∧ Below w.heap.size w w' := by
  have := dsize_any h s
  rw [hf] at this
  simp only [hn] at this
  exact this

/-- an act that is yet to be done -/
structure AV where
  fid : FuncId
  bnd : Array Value
  caps : Array Value
def av (x : AV) : List Value := [.func (.func x.fid) x.bnd x.caps]
instance : Inhabited AV := ⟨⟨0, #[], #[]⟩⟩
theorem lit_av (w : World) (v : Value) (x : AV) (hv : v = .func (.func x.fid) x.bnd x.caps) {g : Nat} (hg : w.heap.size = g) : TRow 1 av default (w.alloc (.cells #[v] 89)) (some ⟨g, 0, none⟩) 1 [x] :=
  trow_lit w _ _ _ hg (fun j u hj => by
    subst hv
    match j, hj with
    | 0, hj => exact hj
    | j + 1, hj => simp [av] at hj)
theorem zone_res (F : FuncId) (p : Nat) (s : ByteArray) (w : World) :
    Calls Tryz.prog 38 #[.func (.func F) #[.pointer (some ⟨p, 0, none⟩)] #[], .string s] w fun e w' => ∃ b1 b2, e = .returned (.func (.func 89) #[] #[.pointer (some ⟨b1, 0, none⟩), .pointer (some ⟨b2, 0, none⟩)]) ∧
      (w'.heap[b1]? = some (.cells #[.func (.func F) #[.pointer (some ⟨p, 0, none⟩)] #[]] 94 (0, 0)) ∧ w'.heap[b2]? = some (.cells #[.string s] 9 (0, 0)) ∧ w.heap.size ≤ b1 ∧ w.heap.size ≤ b2) ∧ Below w.heap.size w w' := by
  refine (zone_any F p s w).mono ?_
  rintro e w' ⟨rfl, rfl⟩
  refine ⟨_, _, rfl, ⟨(Below.heap_alloc _ _ _ (by simp)).trans (heap_alloc_new _ _), ?_, Nat.le_refl _, by omega⟩, (below_alloc w _).alloc (by simp) _⟩
  have := heap_alloc_new (w.alloc (.cells #[.func (.func F) #[.pointer (some ⟨p, 0, none⟩)] #[]] 94)) (.cells #[.string s] 9)
  rwa [World.size_alloc] at this
theorem avE : Enc 1 av := ⟨fun _ => rfl, fun x u hu => by rw [List.mem_singleton.mp hu]; rfl⟩
theorem actE : Elem 75 89 1 8 .nilFunc := ⟨Tryz.underlying75, by kernel_rfl, rfl, by decide, by decide⟩

set_option maxRecDepth 100000 in
set_option maxHeartbeats 1000000 in
/-- there is no such file -/
theorem zread_none {w : World} {p : Nat} {D : Dk.D} {S : Nat → Prop} (h : DK w p D S) (hf : Dk.find D sRoster = none) :
    Calls Tryz.prog 20 #[.pointer (some ⟨p, 0, none⟩)] w fun e w' => e = .returned (.tuple #[.slice none 0 0, .int .i64 0]) ∧ Below w.heap.size w w' := by
  go_enter Tryz.func20, Tryz.ntmps20
  go_wp2_with (first
    | (go_at_call 45; have := c0_1; go_must (refine (dsize_no (h.on c0_1) sRoster hf).mono ?_; rintro e w2 ⟨rfl, hb2⟩; have c0_2 := c0_1.trans (hb2.mono c0_1.size); have c1_2 := hb2))
    | (go_at_call 42; go_must (refine (zroster_any _).mono ?_; rintro e w1 ⟨rfl, hb1⟩; have c0_1 := hb1)))
  go_ret2
  exact ⟨rfl, c0_2⟩
set_option maxRecDepth 100000 in
set_option maxHeartbeats 1000000 in
/-- all bytes of the file -/
theorem zread_some {w : World} {p n k : Nat} {f : Dk.F} {D : Dk.D} {S : Nat → Prop} (h : DK w p D S) (hf : Dk.find D sRoster = some (k, f)) (hn : f.bs.length = n) (hn0 : 0 < n) (hn1 : n ≤ 100000) (hd : D.dead = false) :
    Calls Tryz.prog 20 #[.pointer (some ⟨p, 0, none⟩)] w fun e w' => ∃ g, e = .returned (.tuple #[.slice (some ⟨g, 0, none⟩) n n, .int .i64 0]) ∧ Row .u8 w' (some ⟨g, 0, none⟩) n f.bs ∧ Below w.heap.size w w' := by
  have hrd := fun W (hb : Below w.heap.size w W) => readD_any (h.on hb) sRoster n k f hf hn hn0 hn1 hd
  generalize hbs : f.bs = bs at hrd ⊢
  have h := h
  go_enter Tryz.func20, Tryz.ntmps20
  go_wp2_with (first
    | (go_at_call 46; have := c0_3; go_must (refine (hrd _ c0_3).mono ?_; rintro e w4 ⟨rfl, hrow, hb4⟩; have c0_4 := c0_3.trans (hb4.mono c0_3.size); have c1_4 := c1_3.trans (hb4.mono c1_3.size); have c2_4 := c2_3.trans (hb4.mono c2_3.size); have c3_4 := hb4))
    | (go_at_call 42; have := c0_2; go_must (refine (zroster_any _).mono ?_; rintro e w3 ⟨rfl, hb3⟩; have c0_3 := c0_2.trans (hb3.mono c0_2.size); have c1_3 := c1_2.trans (hb3.mono c1_2.size); have c2_3 := hb3))
    | (go_at_call 45; have := c0_1; go_must (refine (dsize_yes (h.on c0_1) sRoster hf hn).mono ?_; rintro e w2 ⟨rfl, hb2⟩; have c0_2 := c0_1.trans (hb2.mono c0_1.size); have c1_2 := hb2))
    | (go_at_call 42; go_must (refine (zroster_any _).mono ?_; rintro e w1 ⟨rfl, hb1⟩; have c0_1 := hb1)))
  go_ret2
  exact ⟨w3.heap.size, rfl, hrow, c0_4⟩

set_option maxRecDepth 100000 in
set_option maxHeartbeats 1000000 in
/-- without files nothing is to be mended -/
theorem zmend_none {w : World} {p : Nat} {k : Int} {D : Dk.D} {S : Nat → Prop} (h : DK w p D S) (hz : Dk.find D sFresh = none) (hf : Dk.find D sRoster = none) (hk : k = 0) :
    Calls Tryz.prog 23 #[.pointer (some ⟨p, 0, none⟩), .int .i64 k] w fun e w' => e = .returned (.slice none 0 0) ∧ Below w.heap.size w w' := by
  subst hk
  go_enter Tryz.func23, Tryz.ntmps23
  go_wp2_with (first
    | (go_at_call 45; have := c0_3; go_must (refine (dsize_no (h.on c0_3) sRoster hf).mono ?_; rintro e w4 ⟨rfl, hb4⟩; have c0_4 := c0_3.trans (hb4.mono c0_3.size); have c1_4 := c1_3.trans (hb4.mono c1_3.size); have c2_4 := c2_3.trans (hb4.mono c2_3.size); have c3_4 := hb4))
    | (go_at_call 42; have := c0_2; go_must (refine (zroster_any _).mono ?_; rintro e w3 ⟨rfl, hb3⟩; have c0_3 := c0_2.trans (hb3.mono c0_2.size); have c1_3 := c1_2.trans (hb3.mono c1_2.size); have c2_3 := hb3))
    | (go_at_call 45; have := c0_1; go_must (refine (dsize_no (h.on c0_1) sFresh hz).mono ?_; rintro e w2 ⟨rfl, hb2⟩; have c0_2 := c0_1.trans (hb2.mono c0_1.size); have c1_2 := hb2))
    | (go_at_call 37; go_must (refine (zfresh_any _).mono ?_; rintro e w1 ⟨rfl, hb1⟩; have c0_1 := hb1)))
  go_ret
  exact ⟨rfl, c0_4⟩

/-- what is done of a file that has nothing wrong -/
def MendRes (w : World) (p : Nat) (e : Ending) (w' : World) : Prop :=
  ∃ g c b1 b2, e = .returned (.slice (some ⟨g, 0, none⟩) 2 c) ∧ w'.ownsRow w.heap.size 89 1 (.slice (some ⟨g, 0, none⟩) 2 c) 2 (tcells av [⟨89, #[], #[.pointer (some ⟨b1, 0, none⟩), .pointer (some ⟨b2, 0, none⟩)]⟩, ⟨43, #[.pointer (some ⟨p, 0, none⟩)], #[]⟩]) ∧
    w'.heap[b1]? = some (.cells #[.func (.func 39) #[.pointer (some ⟨p, 0, none⟩)] #[]] 94 (0, 0)) ∧ w'.heap[b2]? = some (.cells #[.string sRoster] 9 (0, 0)) ∧ w.heap.size ≤ b1 ∧ w.heap.size ≤ b2 ∧ Below w.heap.size w w'

set_option maxRecDepth 100000 in
set_option maxHeartbeats 1000000 in
theorem zmend_some {w : World} {p n k : Nat} {f : Dk.F} {D : Dk.D} {S : Nat → Prop} (h : DK w p D S) (hz : Dk.find D sFresh = none) (hf : Dk.find D sRoster = some (k, f)) (hn : f.bs.length = n) :
    Calls Tryz.prog 23 #[.pointer (some ⟨p, 0, none⟩), .int .i64 n] w (MendRes w p) := by
  have t1 : Hid (0 = 0) := (rfl : 0 = 0)
  go_enter Tryz.func23, Tryz.ntmps23
  go_wp2_with (first
    | (at_builtin; have := hb7; go_must (refine append_t actE avE (w0 := w6) (B := w6.heap.size) rfl (.tmp 52) (.tmp 55) rfl (.slice a7 1 c7) 1 [⟨89, #[], #[.pointer (some ⟨b1, 0, none⟩), .pointer (some ⟨b2, 0, none⟩)]⟩] rfl (owns_below how7 (below_alloc _ _)) (some ⟨w7.heap.size, 0, none⟩) 1 1 [⟨43, #[.pointer (some ⟨p, 0, none⟩)], #[]⟩] rfl (lit_av w7 _ _ rfl rfl) (fun h => by cases h) (by omega) (hb7.alloc hs7 _) (by simp; omega) ?_; intro a8 c8 w8 _ _ _ how8 hb8 hs8))
    | (at_builtin; have tok := t1; have := c0_6; go_must (clear tok t1; refine append_t actE avE (w0 := w6) (B := w6.heap.size) rfl (.tmp 42) (.tmp 47) rfl (.slice none 0 0) 0 [] rfl (World.ownsRow_nil _ _ _ _) (some ⟨w6.heap.size, 0, none⟩) 1 1 [⟨89, #[], #[.pointer (some ⟨b1, 0, none⟩), .pointer (some ⟨b2, 0, none⟩)]⟩] rfl (lit_av w6 _ _ rfl rfl) (fun h => by cases h) (by omega) (below_alloc _ _) (by simp) ?_; intro a7 c7 w7 _ _ _ how7 hb7 hs7))
    | (go_at_call 38; have := c0_5; go_must (refine (zone_res 39 p sRoster _).mono ?_; rintro e w6 ⟨b1, b2, rfl, hB, hb6⟩; have c0_6 := c0_5.trans (hb6.mono c0_5.size); have c1_6 := c1_5.trans (hb6.mono c1_5.size); have c2_6 := c2_5.trans (hb6.mono c2_5.size); have c3_6 := c3_5.trans (hb6.mono c3_5.size); have c4_6 := c4_5.trans (hb6.mono c4_5.size); have c5_6 := hb6))
    | (go_at_call 42; have := c0_4; go_must (refine (zroster_any _).mono ?_; rintro e w5 ⟨rfl, hb5⟩; have c0_5 := c0_4.trans (hb5.mono c0_4.size); have c1_5 := c1_4.trans (hb5.mono c1_4.size); have c2_5 := c2_4.trans (hb5.mono c2_4.size); have c3_5 := c3_4.trans (hb5.mono c3_4.size); have c4_5 := hb5))
    | (go_at_call 45; have := c0_3; go_must (refine (dsize_yes (h.on c0_3) sRoster hf hn).mono ?_; rintro e w4 ⟨rfl, hb4⟩; have c0_4 := c0_3.trans (hb4.mono c0_3.size); have c1_4 := c1_3.trans (hb4.mono c1_3.size); have c2_4 := c2_3.trans (hb4.mono c2_3.size); have c3_4 := hb4))
    | (go_at_call 42; have := c0_2; go_must (refine (zroster_any _).mono ?_; rintro e w3 ⟨rfl, hb3⟩; have c0_3 := c0_2.trans (hb3.mono c0_2.size); have c1_3 := c1_2.trans (hb3.mono c1_2.size); have c2_3 := hb3))
    | (go_at_call 45; have := c0_1; go_must (refine (dsize_no (h.on c0_1) sFresh hz).mono ?_; rintro e w2 ⟨rfl, hb2⟩; have c0_2 := c0_1.trans (hb2.mono c0_1.size); have c1_2 := hb2))
    | (go_at_call 37; go_must (refine (zfresh_any _).mono ?_; rintro e w1 ⟨rfl, hb1⟩; have c0_1 := hb1)))
  go_ret
  have c6 := c0_6.trans (hb8.mono c0_6.size)
  rcases how8.2 with ⟨e, h0⟩ | ⟨g, cap, cur, e, hg0, hg1, hg2⟩
  · cases h0
  · cases e
    exact ⟨g, c8, b1, b2, rfl, ⟨how8.1, .inr ⟨g, c8, cur, rfl, Nat.le_trans c0_6.size hg0, hg1, hg2⟩⟩, (hb8.block b1 (heap_lt hB.1)).trans hB.1, (hb8.block b2 (heap_lt hB.2.1)).trans hB.2.1, Nat.le_trans c0_5.size hB.2.2.1, Nat.le_trans c0_5.size hB.2.2.2, c6⟩
end Go.Proofs.YtfogodbbgbnhkaaGreatDoor
