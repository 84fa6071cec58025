namespace Go.Proofs.Ytkjlkbgdkdcboaa.Acre

def sgn (n : Int) : Int := if n < 0 then -1 else if 0 < n then 1 else 0

theorem sgn_neg {n : Int} (h : n < 0) : sgn n = -1 := by unfold sgn; rw [if_pos h]
theorem sgn_pos {n : Int} (h : 0 < n) : sgn n = 1 := by unfold sgn; rw [if_neg (by omega), if_pos h]
theorem sgn_zero {n : Int} (h1 : ¬ n < 0) (h2 : ¬ 0 < n) : sgn n = 0 := by unfold sgn; rw [if_neg h1, if_neg h2]
theorem sgn_bd (n : Int) : -1 ≤ sgn n ∧ sgn n ≤ 1 := by unfold sgn; split <;> (try split) <;> omega

/-- a product is no greater than the product of the bounds. -/
theorem mul_bd (a b A B : Int) (ha : -A ≤ a ∧ a ≤ A) (hb : -B ≤ b ∧ b ≤ B) : -(A * B) ≤ a * b ∧ a * b ≤ A * B := by
  have hB : 0 ≤ B := by omega
  have h1 : a * b ≤ a.natAbs * b.natAbs := by
    have := Int.le_natAbs (a := a * b); rw [Int.natAbs_mul] at this; simpa using this
  have h2 : -(a * b) ≤ a.natAbs * b.natAbs := by
    have := Int.le_natAbs (a := -(a * b)); rw [Int.natAbs_neg, Int.natAbs_mul] at this; simpa using this
  have h3 : (a.natAbs : Int) * b.natAbs ≤ A * B := Int.mul_le_mul (by omega) (by omega) (by omega) (by omega)
  omega

/-- is N / D from a to b, or from b to a? -/
def btw (N D a b : Int) : Bool := decide ((a * D ≤ N ∧ N ≤ b * D) ∨ (b * D ≤ N ∧ N ≤ a * D))

theorem btw_prog (N D a b : Int) : decide (sgn (N - a * D) * sgn (N - b * D) ≤ 0) = btw N D a b := by
  unfold btw sgn
  generalize a * D = p
  generalize b * D = q
  rw [Bool.eq_iff_iff]
  simp only [decide_eq_true_eq]
  rcases Int.lt_trichotomy N p with h1 | h1 | h1 <;> rcases Int.lt_trichotomy N q with h2 | h2 | h2 <;>
    (repeat (first | rw [if_pos (show N - p < 0 by omega)] | rw [if_neg (show ¬ N - p < 0 by omega)] | rw [if_pos (show N - q < 0 by omega)] | rw [if_neg (show ¬ N - q < 0 by omega)] | rw [if_pos (show 0 < N - p by omega)] | rw [if_neg (show ¬ 0 < N - p by omega)] | rw [if_pos (show 0 < N - q by omega)] | rw [if_neg (show ¬ 0 < N - q by omega)])) <;> omega

theorem btw_ref (N D a b : Int) (hD : 0 ≤ D) (h : a ≤ b) : btw N D a b = decide (a * D ≤ N ∧ N ≤ b * D) := by
  unfold btw
  have := Int.mul_le_mul_of_nonneg_right h hD
  rw [Bool.eq_iff_iff]
  simp only [decide_eq_true_eq]
  omega

theorem btw_swap (N D a b : Int) : btw N D a b = btw N D b a := by
  unfold btw
  rw [Bool.eq_iff_iff]; simp only [decide_eq_true_eq]
  omega

/-- on which side of an edge -/
def sd (x0 y0 x1 y1 xN xD yN yD : Int) : Int := sgn ((x1 - x0) * ((yN - y0 * yD) * xD) - (y1 - y0) * ((xN - x0 * xD) * yD))

theorem sd_ref (x0 y0 x1 y1 xN xD yN yD : Int) : sgn ((yN - y0 * yD) * (x1 - x0) * xD - (xN - x0 * xD) * (y1 - y0) * yD) = sd x0 y0 x1 y1 xN xD yN yD := by
  unfold sd; congr 1; grind

def onE (x0 y0 x1 y1 xN xD yN yD : Int) : Bool := sd x0 y0 x1 y1 xN xD yN yD == 0 && (btw xN xD x0 x1 && btw yN yD y0 y1)

def g (n d : Int) : Int := (Int.gcd n d : Int)
def low (n d : Int) : Int × Int := (n.tdiv (g n d * sgn d), d.tdiv (g n d * sgn d))

theorem g_pos (n d : Int) (h : d ≠ 0) : 0 < g n d := by
  unfold g; have := Int.gcd_pos_of_ne_zero_right n h; omega

theorem low_neg (n d : Int) (h : d < 0) : low n d = ((-n).tdiv (g n d), (-d).tdiv (g n d)) := by
  unfold low sgn; simp only [h, if_true]
  rw [Int.mul_neg, Int.mul_one, Int.tdiv_neg, Int.tdiv_neg, Int.neg_tdiv, Int.neg_tdiv]
theorem low_pos (n d : Int) (h : 0 < d) : low n d = (n.tdiv (g n d), d.tdiv (g n d)) := by
  unfold low sgn; rw [if_neg (by omega), if_pos h, Int.mul_one]

/-- of a fraction in lowest terms: it is n / d, its second number is above 0, neither is greater than it was. -/
theorem low_spec (n d : Int) (h : d ≠ 0) : 0 < (low n d).2 ∧ (low n d).1 * d = n * (low n d).2 := by
  have hg := g_pos n d h
  obtain ⟨a, ha⟩ : g n d ∣ n := Int.gcd_dvd_left n d
  obtain ⟨b, hb⟩ : g n d ∣ d := Int.gcd_dvd_right n d
  have q1 : n.tdiv (g n d) = a := by conv => lhs; arg 1; rw [ha]
                                     exact Int.mul_tdiv_cancel_left _ (by omega)
  have q2 : d.tdiv (g n d) = b := by conv => lhs; arg 1; rw [hb]
                                     exact Int.mul_tdiv_cancel_left _ (by omega)
  rcases Int.lt_or_lt_of_ne h with h' | h'
  · rw [low_neg n d h', Int.neg_tdiv, Int.neg_tdiv, q1, q2]
    constructor
    · have : b < 0 := by
        rcases Int.lt_or_le b 0 with c | c
        · exact c
        · have := Int.mul_nonneg (Int.le_of_lt hg) c; omega
      show 0 < -b; omega
    · show -a * d = n * -b
      generalize g n d = k at *; subst ha; subst hb; grind
  · rw [low_pos n d h', q1, q2]
    constructor
    · show 0 < b
      rcases Int.lt_or_le 0 b with c | c
      · exact c
      · have := Int.mul_nonneg (Int.le_of_lt hg) (show 0 ≤ -b by omega)
        rw [Int.mul_neg] at this; omega
    · show a * d = n * b
      generalize g n d = k at *; subst ha; subst hb; grind

theorem g_neg (n d : Int) : g ((n.natAbs : Nat) : Int) (-d) = g n d := by unfold g Int.gcd; simp
theorem g_abs (n d : Int) : g ((n.natAbs : Nat) : Int) d = g n d := by unfold g Int.gcd; simp
def onGrid (p : Int × Int) : Bool := decide (-12 ≤ p.1 ∧ p.1 ≤ 12) && decide (-12 ≤ p.2 ∧ p.2 ≤ 12)
theorem all_snoc (ps : List (Int × Int)) (k : Nat) (h : k < ps.length) : (ps.take (k + 1)).all onGrid = ((ps.take k).all onGrid && onGrid ps[k]) := by
  rw [List.take_succ_eq_append_getElem h, List.all_append]; simp
theorem all_no (ps : List (Int × Int)) (k : Nat) (h : k < ps.length) (hn : onGrid ps[k] = false) : ps.all onGrid = false := by
  rw [List.all_eq_false]; exact ⟨ps[k], List.getElem_mem h, by simp [hn]⟩
theorem tdiv_bd (n k : Int) : -(n.natAbs : Int) ≤ n.tdiv k ∧ n.tdiv k ≤ (n.natAbs : Int) := by
  have h : (n.tdiv k).natAbs ≤ n.natAbs := by rw [Int.natAbs_tdiv]; exact Nat.div_le_self _ _
  omega
theorem g_le (n d : Int) (h : d ≠ 0) : g n d ≤ d.natAbs := by
  unfold g
  have := Nat.le_of_dvd (by omega) (Int.gcd_dvd_natAbs_right n d)
  omega
/-- by what both are divided -/
theorem com_bd (n d : Int) (h : d ≠ 0) : (-(d.natAbs : Int) ≤ g n d * sgn d ∧ g n d * sgn d ≤ d.natAbs) ∧ g n d * sgn d ≠ 0 := by
  have h1 := g_le n d h
  have h2 := g_pos n d h
  rcases Int.lt_or_lt_of_ne h with h' | h'
  · rw [sgn_neg h', Int.mul_neg, Int.mul_one]; omega
  · rw [sgn_pos h', Int.mul_one]; omega
theorem low_bd (n d : Int) : (-(n.natAbs : Int) ≤ (low n d).1 ∧ (low n d).1 ≤ n.natAbs) ∧ (-(d.natAbs : Int) ≤ (low n d).2 ∧ (low n d).2 ≤ d.natAbs) :=
  ⟨tdiv_bd _ _, tdiv_bd _ _⟩

/-- how far along the first edge the lines of both cross, of the turn -/
def share (a1 a2 c1 c2 d1 d2 : Int) : Int := (c1 - a1) * (d2 - c2) - (c2 - a2) * (d1 - c1)
def crossX (a1 a2 b1 c1 c2 d1 d2 t : Int) : Int × Int := low (a1 * t + share a1 a2 c1 c2 d1 d2 * (b1 - a1)) t
def crossY (a1 a2 b2 c1 c2 d1 d2 t : Int) : Int × Int := low (a2 * t + share a1 a2 c1 c2 d1 d2 * (b2 - a2)) t
def boxed (a1 a2 b1 b2 : Int) (x y : Int × Int) : Bool := btw x.1 x.2 a1 b1 && btw y.1 y.2 a2 b2
/-- where edges meet whose lines cross -/
def across (a1 a2 b1 b2 c1 c2 d1 d2 t : Int) : Int × (Int × Int) × (Int × Int) :=
  if boxed a1 a2 b1 b2 (crossX a1 a2 b1 c1 c2 d1 d2 t) (crossY a1 a2 b2 c1 c2 d1 d2 t) && boxed c1 c2 d1 d2 (crossX a1 a2 b1 c1 c2 d1 d2 t) (crossY a1 a2 b2 c1 c2 d1 d2 t) then (1, crossX a1 a2 b1 c1 c2 d1 d2 t, crossY a1 a2 b2 c1 c2 d1 d2 t) else (0, (0, 0), (0, 0))
theorem across_eq (a1 a2 b1 b2 c1 c2 d1 d2 t : Int) (x y : Int × Int) (hx : crossX a1 a2 b1 c1 c2 d1 d2 t = x) (hy : crossY a1 a2 b2 c1 c2 d1 d2 t = y) :
    across a1 a2 b1 b2 c1 c2 d1 d2 t = if boxed a1 a2 b1 b2 x y && boxed c1 c2 d1 d2 x y then (1, x, y) else (0, (0, 0), (0, 0)) := by
  subst hx; subst hy; rfl

end Go.Proofs.Ytkjlkbgdkdcboaa.Acre
