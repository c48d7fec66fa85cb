/- What the program's balance does. -/
import Derived.Test.YtpoocjffkhjeaaaTN3
namespace Go.Proofs.Ytpoocjffkhjeaaa
open Go.RowKit

theorem TreeRes.from {N : Nat → Prop} {w W : World} {L L' : List It.I} {e : Ending} {w' : World} (h : TreeRes N W L e w') (hb : Below w.heap.size w W) (hL : L = L') : TreeRes N w L' e w' := by
  obtain ⟨v, t, h1, h2, h3, h4⟩ := h
  exact ⟨v, t, h1, h2.mono (grw.le hb.size), h3.trans hL, hb.trans (h4.mono hb.size)⟩

set_option maxRecDepth 100000 in
set_option maxHeartbeats 2000000 in
theorem balance_any {N : Nat → Prop} (vl vr : Option Addr) (l r : Tn.T) (h : IH) (x : It.I) (w : World) (hl : Lies N w vl l) (hr : Lies N w vr r) (hx : ItIn N w h x) (hlen : l.list.length + r.list.length ≤ 50000) :
    Calls Try.prog 47 #[.pointer vl, iv h, .pointer vr] w (TreeRes N w (l.list ++ x :: r.list)) := by
  have hb0 : Below w.heap.size w (w.alloc (.cells #[.string h.key, .bool h.dead, .bool h.far, .slice h.a h.n h.c, .int .i64 h.p.1, .int .i64 h.p.2.1, .int .i64 h.p.2.2.1, .int .u32 (h.p.2.2.2 : Nat)] 40)) := below_alloc w _
  have hl := hl.below hb0
  have hr := hr.below hb0
  have hx := hx.below hb0
  have t1 := tall_any vl l _ hl
  have t2 := tall_any vr r _ hr
  have l1 := Tn.hgt_le l
  have l2 := Tn.hgt_le r
  obtain ⟨z1, e1⟩ : ∃ z, l.hgt = z := ⟨_, rfl⟩
  obtain ⟨z2, e2⟩ : ∃ z, r.hgt = z := ⟨_, rfl⟩
  have Hz1 : Hid (l.hgt = z1) := e1
  have Hz2 : Hid (r.hgt = z2) := e2
  rw [e1] at t1 l1
  rw [e2] at t2 l2
  clear e1 e2
  have hwr : IntKind.i64.wrap ((z1 : Int) - (z2 : Int)) = (z1 : Int) - (z2 : Int) := by rw [IntKind.wrap_i64]; omega
  by_cases c1 : 1 < (z1 : Int) - (z2 : Int)
  · have d1 : decide (1 < (z1 : Int) - (z2 : Int)) = true := decide_eq_true c1
    cases l with
    | e => have := Hz1.out; simp [Tn.T.hgt] at this; omega
    | n A y C =>
    obtain ⟨b, rfl⟩ : ∃ b, vl = some ⟨b, 0, none⟩ := by
      obtain ⟨b, _, _, _, e, _⟩ := hl
      exact ⟨b, e⟩
    simp only [Tn.T.list, List.length_append, List.length_cons] at hlen
    have hj := lowl_any b vr A C r y h x _ hl hr hx (by omega)
    clear hl hr hx
    obtain ⟨key, dead, far, qa, qn, qc, ⟨p1, p2, p3, p4⟩⟩ := h
    simp only at hj hb0 t1 t2
    go_enter Try.func47, Try.ntmps47
    go_wp2_with (first
      | (go_at_call 53; go_must (refine hj.mono ?_; rintro e w1 ⟨v, t, rfl, hR⟩))
      | (go_at_call 52; first | ((with_reducible refine t1.mono ?_); rintro e w1 ⟨rfl, hw⟩; rw [hw]; clear hw w1) | (go_must (refine t2.mono ?_; rintro e w1 ⟨rfl, hw⟩; rw [hw]; clear hw w1))))
    go_ret
    exact TreeRes.from ⟨v, t, rfl, hR⟩ hb0 (by simp [Tn.T.list])
  · have d1 : decide (1 < (z1 : Int) - (z2 : Int)) = false := decide_eq_false c1
    by_cases c2 : (z1 : Int) - (z2 : Int) < -1
    · have d2 : decide ((z1 : Int) - (z2 : Int) < -1) = true := decide_eq_true c2
      cases r with
      | e => have := Hz2.out; simp [Tn.T.hgt] at this; omega
      | n C y A =>
      obtain ⟨b, rfl⟩ : ∃ b, vr = some ⟨b, 0, none⟩ := by
        obtain ⟨b, _, _, _, e, _⟩ := hr
        exact ⟨b, e⟩
      simp only [Tn.T.list, List.length_append, List.length_cons] at hlen
      have hj := lowr_any b vl A C l y h x _ hr hl hx (by omega)
      clear hl hr hx
      obtain ⟨key, dead, far, qa, qn, qc, ⟨p1, p2, p3, p4⟩⟩ := h
      simp only at hj hb0 t1 t2
      go_enter Try.func47, Try.ntmps47
      go_wp2_with (first
        | (go_at_call 54; go_must (refine hj.mono ?_; rintro e w1 ⟨v, t, rfl, hR⟩))
        | (go_at_call 52; first | ((with_reducible refine t1.mono ?_); rintro e w1 ⟨rfl, hw⟩; rw [hw]; clear hw w1) | (go_must (refine t2.mono ?_; rintro e w1 ⟨rfl, hw⟩; rw [hw]; clear hw w1))))
      go_ret
      exact TreeRes.from ⟨v, t, rfl, hR⟩ hb0 (by simp [Tn.T.list])
    · have d2 : decide ((z1 : Int) - (z2 : Int) < -1) = false := decide_eq_false c2
      have hj := join_any vl vr l r h x _ hl hr hx (by rw [Hz1.out]; omega) (by rw [Hz2.out]; omega)
      clear hl hr hx
      obtain ⟨key, dead, far, qa, qn, qc, ⟨p1, p2, p3, p4⟩⟩ := h
      simp only at hj hb0 t1 t2
      go_enter Try.func47, Try.ntmps47
      go_wp2_with (first
        | (go_at_call 46; go_must (refine hj.mono ?_; rintro e w1 ⟨v, t, rfl, hR⟩))
        | (go_at_call 52; first | ((with_reducible refine t1.mono ?_); rintro e w1 ⟨rfl, hw⟩; rw [hw]; clear hw w1) | (go_must (refine t2.mono ?_; rintro e w1 ⟨rfl, hw⟩; rw [hw]; clear hw w1))))
      go_ret
      exact TreeRes.from ⟨v, t, rfl, hR⟩ hb0 rfl
end Go.Proofs.Ytpoocjffkhjeaaa
