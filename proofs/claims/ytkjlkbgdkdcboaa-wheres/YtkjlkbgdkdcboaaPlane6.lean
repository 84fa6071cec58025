import Derived.Test.YtkjlkbgdkdcboaaPlane5
namespace Go.Proofs.Ytkjlkbgdkdcboaa.Acre

/-- does the ray upwards meet the edge? -/
def abv (e : Ed) (x y : Int × Int) : Bool :=
  if e.2.1 < e.1.1 then (decide (e.2.1 * x.2 ≤ x.1) && decide (x.1 < e.1.1 * x.2)) && decide (sd e.2.1 e.2.2 e.1.1 e.1.2 x.1 x.2 y.1 y.2 < 0)
  else (decide (e.1.1 * x.2 ≤ x.1) && decide (x.1 < e.2.1 * x.2)) && decide (sd e.1.1 e.1.2 e.2.1 e.2.2 x.1 x.2 y.1 y.2 < 0)

/-- a point to the right of a place, and above it -/
def quad (p : Pt) (x y : Int × Int) : Bool := decide (0 < p.1 * x.2 - x.1) && decide (0 < p.2 * y.2 - y.1)

theorem sgn_lt (n : Int) : sgn n < 0 ↔ n < 0 := by unfold sgn; split <;> (try split) <;> omega
theorem sgn_gt (n : Int) : 0 < sgn n ↔ 0 < n := by unfold sgn; split <;> (try split) <;> omega
theorem sgn_ge (n : Int) : 0 ≤ sgn n ↔ 0 ≤ n := by unfold sgn; split <;> (try split) <;> omega

theorem sd_cross (a b : Pt) (x y : Int × Int) : sd a.1 a.2 b.1 b.2 x.1 x.2 y.1 y.2 = sgn ((a.1 * x.2 - x.1) * (b.2 * y.2 - y.1) - (b.1 * x.2 - x.1) * (a.2 * y.2 - y.1)) := by
  unfold sd; congr 1; grind

theorem cross_rule (xa ya xb yb : Int) (h : ¬ (xa * yb - xb * ya = 0 ∧ ((xa ≤ 0 ∧ 0 ≤ xb) ∨ (xb ≤ 0 ∧ 0 ≤ xa)) ∧ ((ya ≤ 0 ∧ 0 ≤ yb) ∨ (yb ≤ 0 ∧ 0 ≤ ya)))) :
    (((ya ≤ 0 ∧ 0 < yb ∧ 0 < xa * yb - xb * ya) ∨ (yb ≤ 0 ∧ 0 < ya ∧ xa * yb - xb * ya < 0)) ↔ ((xa ≤ 0 ∧ 0 < xb ∧ xa * yb - xb * ya < 0) ∨ (xb ≤ 0 ∧ 0 < xa ∧ 0 < xa * yb - xb * ya))) ↔ ((0 < xa ∧ 0 < ya) ↔ (0 < xb ∧ 0 < yb)) := by
  have p1 : 0 < xa → 0 < yb → 0 < xa * yb := Int.mul_pos
  have p2 : 0 < xb → 0 < ya → 0 < xb * ya := Int.mul_pos
  have p3 : xa ≤ 0 → 0 ≤ yb → xa * yb ≤ 0 := fun h1 h2 => Int.mul_nonpos_of_nonpos_of_nonneg h1 h2
  have p4 : xb ≤ 0 → 0 ≤ ya → xb * ya ≤ 0 := fun h1 h2 => Int.mul_nonpos_of_nonpos_of_nonneg h1 h2
  have p5 : 0 ≤ xa → yb ≤ 0 → xa * yb ≤ 0 := fun h1 h2 => Int.mul_nonpos_of_nonneg_of_nonpos h1 h2
  have p6 : 0 ≤ xb → ya ≤ 0 → xb * ya ≤ 0 := fun h1 h2 => Int.mul_nonpos_of_nonneg_of_nonpos h1 h2
  have p7 : xa ≤ 0 → yb ≤ 0 → 0 ≤ xa * yb := fun h1 h2 => Int.mul_nonneg_of_nonpos_of_nonpos h1 h2
  have p8 : xb ≤ 0 → ya ≤ 0 → 0 ≤ xb * ya := fun h1 h2 => Int.mul_nonneg_of_nonpos_of_nonpos h1 h2
  generalize xa * yb = P at *
  generalize xb * ya = Q at *
  omega

theorem isR_rule (a b : Pt) (x y : Int × Int) (hy : 0 < y.2) : isR (up (a, b)) x y = decide ((a.2 * y.2 - y.1 ≤ 0 ∧ 0 < b.2 * y.2 - y.1 ∧ 0 < (a.1 * x.2 - x.1) * (b.2 * y.2 - y.1) - (b.1 * x.2 - x.1) * (a.2 * y.2 - y.1)) ∨ (b.2 * y.2 - y.1 ≤ 0 ∧ 0 < a.2 * y.2 - y.1 ∧ (a.1 * x.2 - x.1) * (b.2 * y.2 - y.1) - (b.1 * x.2 - x.1) * (a.2 * y.2 - y.1) < 0)) := by
  unfold up
  rw [Bool.eq_iff_iff, decide_eq_true_eq]
  split
  · rename_i h
    have hle : b.2 ≤ a.2 := by simp at h; omega
    have := Int.mul_le_mul_of_nonneg_right hle (Int.le_of_lt hy)
    unfold isR
    rw [sd_cross]
    simp only [Bool.and_eq_true, decide_eq_true_eq, sgn_ge, sgn_lt, sgn_gt]
    generalize (a.1 * x.2 - x.1) * (b.2 * y.2 - y.1) = P
    generalize (b.1 * x.2 - x.1) * (a.2 * y.2 - y.1) = Q
    omega
  · rename_i h
    have hle : a.2 ≤ b.2 := by simp at h; omega
    have := Int.mul_le_mul_of_nonneg_right hle (Int.le_of_lt hy)
    unfold isR
    rw [sd_cross]
    simp only [Bool.and_eq_true, decide_eq_true_eq, sgn_ge, sgn_lt, sgn_gt]
    generalize (a.1 * x.2 - x.1) * (b.2 * y.2 - y.1) = P
    generalize (b.1 * x.2 - x.1) * (a.2 * y.2 - y.1) = Q
    omega

theorem abv_rule (a b : Pt) (x y : Int × Int) (hx : 0 < x.2) : abv (a, b) x y = decide ((a.1 * x.2 - x.1 ≤ 0 ∧ 0 < b.1 * x.2 - x.1 ∧ (a.1 * x.2 - x.1) * (b.2 * y.2 - y.1) - (b.1 * x.2 - x.1) * (a.2 * y.2 - y.1) < 0) ∨ (b.1 * x.2 - x.1 ≤ 0 ∧ 0 < a.1 * x.2 - x.1 ∧ 0 < (a.1 * x.2 - x.1) * (b.2 * y.2 - y.1) - (b.1 * x.2 - x.1) * (a.2 * y.2 - y.1))) := by
  unfold abv
  rw [Bool.eq_iff_iff, decide_eq_true_eq]
  split
  · rename_i h
    have := Int.mul_le_mul_of_nonneg_right (Int.le_of_lt h) (Int.le_of_lt hx)
    rw [sd_cross]
    simp only [Bool.and_eq_true, decide_eq_true_eq, sgn_lt] at *
    generalize (a.1 * x.2 - x.1) * (b.2 * y.2 - y.1) = P
    generalize (b.1 * x.2 - x.1) * (a.2 * y.2 - y.1) = Q
    omega
  · rename_i h
    have hle : a.1 ≤ b.1 := by simp at h; exact h
    have := Int.mul_le_mul_of_nonneg_right hle (Int.le_of_lt hx)
    rw [sd_cross]
    simp only [Bool.and_eq_true, decide_eq_true_eq, sgn_lt]
    generalize (a.1 * x.2 - x.1) * (b.2 * y.2 - y.1) = P
    generalize (b.1 * x.2 - x.1) * (a.2 * y.2 - y.1) = Q
    omega

theorem xor_rule (A B E F : Prop) [Decidable A] [Decidable B] [Decidable E] [Decidable F] (k : (A ↔ B) ↔ (E ↔ F)) : (decide A ^^ decide B) = (decide E ^^ decide F) := by
  by_cases A <;> by_cases B <;> by_cases E <;> by_cases F <;> simp_all

/-- of one edge that the place is not on -/
theorem edge_rule (a b : Pt) (x y : Int × Int) (hx : 0 < x.2) (hy : 0 < y.2) (h : isOnE (a, b) x y = false) : (isR (up (a, b)) x y ^^ abv (a, b) x y) = (quad a x y ^^ quad b x y) := by
  rw [isR_rule a b x y hy, abv_rule a b x y hx]
  have hn : ¬ ((a.1 * x.2 - x.1) * (b.2 * y.2 - y.1) - (b.1 * x.2 - x.1) * (a.2 * y.2 - y.1) = 0 ∧ ((a.1 * x.2 - x.1 ≤ 0 ∧ 0 ≤ b.1 * x.2 - x.1) ∨ (b.1 * x.2 - x.1 ≤ 0 ∧ 0 ≤ a.1 * x.2 - x.1)) ∧ ((a.2 * y.2 - y.1 ≤ 0 ∧ 0 ≤ b.2 * y.2 - y.1) ∨ (b.2 * y.2 - y.1 ≤ 0 ∧ 0 ≤ a.2 * y.2 - y.1))) := by
    rintro ⟨h1, h2, h3⟩
    have : isOnE (a, b) x y = true := by
      unfold isOnE onE btw
      dsimp only
      rw [sd_cross, h1]
      simp only [Bool.and_eq_true, decide_eq_true_eq]
      exact ⟨rfl, by omega, by omega⟩
    rw [h] at this; exact absurd this (by simp)
  have k := cross_rule _ _ _ _ hn
  unfold quad
  generalize (a.1 * x.2 - x.1) * (b.2 * y.2 - y.1) - (b.1 * x.2 - x.1) * (a.2 * y.2 - y.1) = C at *
  generalize a.1 * x.2 - x.1 = xa at *
  generalize b.1 * x.2 - x.1 = xb at *
  generalize a.2 * y.2 - y.1 = ya at *
  generalize b.2 * y.2 - y.1 = yb at *
  rw [← Bool.decide_and, ← Bool.decide_and]
  exact xor_rule _ _ _ _ k

/-- how often, modulo 2 -/
def par (l : List Bool) : Bool := l.foldr (fun a b => a ^^ b) false
theorem par_cons (a : Bool) (l : List Bool) : par (a :: l) = (a ^^ par l) := rfl
theorem par_append (l m : List Bool) : par (l ++ m) = (par l ^^ par m) := by
  induction l with
  | nil => simp [par]
  | cons a r ih => rw [List.cons_append, par_cons, par_cons, ih, Bool.xor_assoc]
theorem par_count (l : List Ed) (p : Ed → Bool) : (decide (l.countP p % 2 = 1)) = par (l.map p) := by
  induction l with
  | nil => simp [par]
  | cons e r ih =>
    rw [List.map_cons, par_cons, ← ih, List.countP_cons]
    cases p e
    · simp
    · simp only [if_true, Bool.true_xor]
      rw [← decide_not]
      exact decide_eq_decide.2 (by omega)
theorem par_xor (l : List Ed) (p q r : Ed → Bool) (h : ∀ e ∈ l, (p e ^^ q e) = r e) : (par (l.map p) ^^ par (l.map q)) = par (l.map r) := by
  induction l with
  | nil => rfl
  | cons e s ih =>
    have := ih (fun f hf => h f (by simp [hf]))
    rw [List.map_cons, List.map_cons, List.map_cons, par_cons, par_cons, par_cons, ← this, ← h e (by simp)]
    cases p e <;> cases q e <;> cases par (s.map p) <;> cases par (s.map q) <;> rfl

/-- round a ring a side changes an even number of times -/
theorem par_ring (r : List Pt) (Q : Pt → Bool) (h : ringOk r = true) : par ((edgesTo r r.length).map fun e => (Q e.1 ^^ Q e.2)) = false := by
  unfold ringOk at h
  simp only [Bool.and_eq_true, decide_eq_true_eq] at h
  obtain ⟨⟨h3, h6⟩, _⟩ := h
  match r, h3, h6 with
  | [a, b, c], _, _ =>
    simp [edgesTo, List.range, List.range.loop, par]
  | [a, b, c, d], _, _ =>
    simp [edgesTo, List.range, List.range.loop, par]
  | [a, b, c, d, e], _, _ =>
    simp [edgesTo, List.range, List.range.loop, par]
  | [a, b, c, d, e, f], _, _ =>
    simp [edgesTo, List.range, List.range.loop, par]
theorem par_field (R : List (List Pt)) (Q : Pt → Bool) (h : ∀ r ∈ R, ringOk r = true) : par ((edgesOf R).map fun e => (Q e.1 ^^ Q e.2)) = false := by
  unfold edgesOf
  induction R with
  | nil => rfl
  | cons r s ih =>
    rw [List.flatMap_cons, List.map_append, par_append, par_ring r Q (h r (by simp)), ih (fun t ht => h t (by simp [ht]))]
    rfl

theorem ring_of {R : List (List Pt)} (h : fieldOk R = true) : ∀ r ∈ R, ringOk r = true := by
  unfold fieldOk at h
  simp only [Bool.and_eq_true, List.all_eq_true] at h
  exact h.2

/-- a ray to the right and a ray upwards -/
theorem rays (R : List (List Pt)) (x y : Int × Int) (hF : fieldOk R = true) (hx : 0 < x.2) (hy : 0 < y.2) (ho : ∀ e ∈ edgesOf R, isOnE e x y = false) :
    (((edgesOf R).map up).countP (fun e => isR e x y) % 2 = 1) ↔ ((edgesOf R).countP (fun e => abv e x y) % 2 = 1) := by
  have h1 := par_count ((edgesOf R).map up) (fun e => isR e x y)
  have h2 := par_count (edgesOf R) (fun e => abv e x y)
  have h3 := par_xor (edgesOf R) (fun e => isR (up e) x y) (fun e => abv e x y) (fun e => (quad e.1 x y ^^ quad e.2 x y)) (fun e he => edge_rule e.1 e.2 x y hx hy (ho e he))
  rw [par_field R (fun p => quad p x y) (ring_of hF)] at h3
  rw [List.map_map] at h1
  have e : (fun e => isR e x y) ∘ up = fun e => isR (up e) x y := rfl
  rw [e] at h1
  rw [← decide_eq_decide, h1, h2]
  cases hp : par ((edgesOf R).map fun e => isR (up e) x y) <;> cases hq : par ((edgesOf R).map fun e => abv e x y) <;> simp_all

end Go.Proofs.Ytkjlkbgdkdcboaa.Acre
