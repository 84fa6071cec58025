import Derived.Test.YtkjlkbgdkdcboaaPlane2
namespace Go.Proofs.Ytkjlkbgdkdcboaa.Acre

theorem onE_first (a b : Pt) : onE a.1 a.2 b.1 b.2 a.1 1 a.2 1 = true := by
  unfold onE sd btw sgn
  simp
  omega
theorem onE_second (a b : Pt) : onE a.1 a.2 b.1 b.2 b.1 1 b.2 1 = true := by
  unfold onE sd btw
  have : (b.1 - a.1) * ((b.2 - a.2 * 1) * 1) - (b.2 - a.2) * ((b.1 - a.1 * 1) * 1) = 0 := by grind
  rw [this]
  simp [sgn]
  omega

def ends1 (a b c d : Pt) : List Pt := [a, b].filter fun p => onE c.1 c.2 d.1 d.2 p.1 1 p.2 1
theorem ends_eq (a b c d : Pt) : ends1 a b c d ++ ends1 c d a b = endsOf a b c d := by
  unfold ends1 endsOf
  have e : [a, b, c, d] = [a, b] ++ [c, d] := rfl
  rw [e, List.filter_append]
  congr 1
  · simp [List.filter_cons, on2, onE_first, onE_second]
  · simp [List.filter_cons, on2, onE_first, onE_second]

theorem sgn_iff (n : Int) : sgn n = 0 ↔ n = 0 := by
  unfold sgn; split
  · constructor <;> intro h <;> omega
  · split <;> constructor <;> intro h <;> omega

theorem cross_on (a b c d : Pt) (t : Int) (ht : t = turn a b c d) (h0 : t ≠ 0) :
    sd a.1 a.2 b.1 b.2 (crossX a.1 a.2 b.1 c.1 c.2 d.1 d.2 t).1 (crossX a.1 a.2 b.1 c.1 c.2 d.1 d.2 t).2 (crossY a.1 a.2 b.2 c.1 c.2 d.1 d.2 t).1 (crossY a.1 a.2 b.2 c.1 c.2 d.1 d.2 t).2 = 0 ∧
    sd c.1 c.2 d.1 d.2 (crossX a.1 a.2 b.1 c.1 c.2 d.1 d.2 t).1 (crossX a.1 a.2 b.1 c.1 c.2 d.1 d.2 t).2 (crossY a.1 a.2 b.2 c.1 c.2 d.1 d.2 t).1 (crossY a.1 a.2 b.2 c.1 c.2 d.1 d.2 t).2 = 0 := by
  obtain ⟨_, hx⟩ := low_spec (a.1 * t + share a.1 a.2 c.1 c.2 d.1 d.2 * (b.1 - a.1)) t h0
  obtain ⟨_, hy⟩ := low_spec (a.2 * t + share a.1 a.2 c.1 c.2 d.1 d.2 * (b.2 - a.2)) t h0
  unfold crossX crossY
  generalize low (a.1 * t + share a.1 a.2 c.1 c.2 d.1 d.2 * (b.1 - a.1)) t = x at *
  generalize low (a.2 * t + share a.1 a.2 c.1 c.2 d.1 d.2 * (b.2 - a.2)) t = y at *
  unfold sd
  rw [sgn_iff, sgn_iff]
  unfold share at hx hy
  unfold turn at ht
  constructor
  · refine (Int.mul_eq_zero.1 (?_ : t * _ = 0)).resolve_left h0
    grind
  · refine (Int.mul_eq_zero.1 (?_ : t * _ = 0)).resolve_left h0
    grind

theorem onE_boxed {a1 a2 b1 b2 : Int} {x y : Int × Int} (h : sd a1 a2 b1 b2 x.1 x.2 y.1 y.2 = 0) : onE a1 a2 b1 b2 x.1 x.2 y.1 y.2 = boxed a1 a2 b1 b2 x y := by
  unfold onE boxed; rw [h]; rfl

/-- as the document's own answer goes about it -/
theorem across_ref (a b c d : Pt) (h0 : turn a b c d ≠ 0) (x y : Int × Int) (hx : crossX a.1 a.2 b.1 c.1 c.2 d.1 d.2 (turn a b c d) = x) (hy : crossY a.1 a.2 b.2 c.1 c.2 d.1 d.2 (turn a b c d) = y) :
    across a.1 a.2 b.1 b.2 c.1 c.2 d.1 d.2 (turn a b c d) = if onE a.1 a.2 b.1 b.2 x.1 x.2 y.1 y.2 && onE c.1 c.2 d.1 d.2 x.1 x.2 y.1 y.2 then (1, x, y) else (0, (0, 0), (0, 0)) := by
  have h := cross_on a b c d _ rfl h0
  rw [hx, hy] at h
  rw [across_eq _ _ _ _ _ _ _ _ _ x y hx hy, onE_boxed h.1, onE_boxed h.2]

end Go.Proofs.Ytkjlkbgdkdcboaa.Acre
