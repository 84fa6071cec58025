
set_option linter.unusedSimpArgs false
set_option linter.unusedVariables false

set_option linter.unusedSimpArgs false
set_option linter.unusedVariables false

namespace Go.Proofs.YtkjlkbgdkdcboaaGreatDoor.Acre

def sgn (n : Int) : Int := if n < 0 then -1 else if 0 < n then 1 else 0

theorem sgn_neg {n : Int} (h : n < 0) : sgn n = -1 := by unfold sgn; rw [if_pos h]
theorem sgn_pos {n : Int} (h : 0 < n) : sgn n = 1 := by unfold sgn; rw [if_neg (by omega), if_pos h]
theorem sgn_zero {n : Int} (h1 : ¬ n < 0) (h2 : ¬ 0 < n) : sgn n = 0 := by unfold sgn; rw [if_neg h1, if_neg h2]
theorem sgn_bd (n : Int) : -1 ≤ sgn n ∧ sgn n ≤ 1 := by unfold sgn; split <;> (try split) <;> omega

/-- a product is no greater than the product of the bounds. -/
theorem mul_bd (a b A B : Int) (ha : -A ≤ a ∧ a ≤ A) (hb : -B ≤ b ∧ b ≤ B) : -(A * B) ≤ a * b ∧ a * b ≤ A * B := by
  have hB : 0 ≤ B := by omega
  have h1 : a * b ≤ a.natAbs * b.natAbs := by
    have := Int.le_natAbs (a := a * b); rw [Int.natAbs_mul] at this; simpa using this
  have h2 : -(a * b) ≤ a.natAbs * b.natAbs := by
    have := Int.le_natAbs (a := -(a * b)); rw [Int.natAbs_neg, Int.natAbs_mul] at this; simpa using this
  have h3 : (a.natAbs : Int) * b.natAbs ≤ A * B := Int.mul_le_mul (by omega) (by omega) (by omega) (by omega)
  omega

/-- is N / D from a to b, or from b to a? -/
def btw (N D a b : Int) : Bool := decide ((a * D ≤ N ∧ N ≤ b * D) ∨ (b * D ≤ N ∧ N ≤ a * D))

theorem btw_prog (N D a b : Int) : decide (sgn (N - a * D) * sgn (N - b * D) ≤ 0) = btw N D a b := by
  unfold btw sgn
  generalize a * D = p
  generalize b * D = q
  rw [Bool.eq_iff_iff]
  simp only [decide_eq_true_eq]
  rcases Int.lt_trichotomy N p with h1 | h1 | h1 <;> rcases Int.lt_trichotomy N q with h2 | h2 | h2 <;>
    (repeat (first | rw [if_pos (show N - p < 0 by omega)] | rw [if_neg (show ¬ N - p < 0 by omega)] | rw [if_pos (show N - q < 0 by omega)] | rw [if_neg (show ¬ N - q < 0 by omega)] | rw [if_pos (show 0 < N - p by omega)] | rw [if_neg (show ¬ 0 < N - p by omega)] | rw [if_pos (show 0 < N - q by omega)] | rw [if_neg (show ¬ 0 < N - q by omega)])) <;> omega

theorem btw_ref (N D a b : Int) (hD : 0 ≤ D) (h : a ≤ b) : btw N D a b = decide (a * D ≤ N ∧ N ≤ b * D) := by
  unfold btw
  have := Int.mul_le_mul_of_nonneg_right h hD
  rw [Bool.eq_iff_iff]
  simp only [decide_eq_true_eq]
  omega

theorem btw_swap (N D a b : Int) : btw N D a b = btw N D b a := by
  unfold btw
  rw [Bool.eq_iff_iff]; simp only [decide_eq_true_eq]
  omega

/-- on which side of an edge -/
def sd (x0 y0 x1 y1 xN xD yN yD : Int) : Int := sgn ((x1 - x0) * ((yN - y0 * yD) * xD) - (y1 - y0) * ((xN - x0 * xD) * yD))

theorem sd_ref (x0 y0 x1 y1 xN xD yN yD : Int) : sgn ((yN - y0 * yD) * (x1 - x0) * xD - (xN - x0 * xD) * (y1 - y0) * yD) = sd x0 y0 x1 y1 xN xD yN yD := by
  unfold sd; congr 1; grind

def onE (x0 y0 x1 y1 xN xD yN yD : Int) : Bool := sd x0 y0 x1 y1 xN xD yN yD == 0 && (btw xN xD x0 x1 && btw yN yD y0 y1)

def g (n d : Int) : Int := (Int.gcd n d : Int)
def low (n d : Int) : Int × Int := (n.tdiv (g n d * sgn d), d.tdiv (g n d * sgn d))

theorem g_pos (n d : Int) (h : d ≠ 0) : 0 < g n d := by
  unfold g; have := Int.gcd_pos_of_ne_zero_right n h; omega

theorem low_neg (n d : Int) (h : d < 0) : low n d = ((-n).tdiv (g n d), (-d).tdiv (g n d)) := by
  unfold low sgn; simp only [h, if_true]
  rw [Int.mul_neg, Int.mul_one, Int.tdiv_neg, Int.tdiv_neg, Int.neg_tdiv, Int.neg_tdiv]
theorem low_pos (n d : Int) (h : 0 < d) : low n d = (n.tdiv (g n d), d.tdiv (g n d)) := by
  unfold low sgn; rw [if_neg (by omega), if_pos h, Int.mul_one]

/-- of a fraction in lowest terms: it is n / d, its second number is above 0, neither is greater than it was. -/
theorem low_spec (n d : Int) (h : d ≠ 0) : 0 < (low n d).2 ∧ (low n d).1 * d = n * (low n d).2 := by
  have hg := g_pos n d h
  obtain ⟨a, ha⟩ : g n d ∣ n := Int.gcd_dvd_left n d
  obtain ⟨b, hb⟩ : g n d ∣ d := Int.gcd_dvd_right n d
  have q1 : n.tdiv (g n d) = a := by conv => lhs; arg 1; rw [ha]
                                     exact Int.mul_tdiv_cancel_left _ (by omega)
  have q2 : d.tdiv (g n d) = b := by conv => lhs; arg 1; rw [hb]
                                     exact Int.mul_tdiv_cancel_left _ (by omega)
  rcases Int.lt_or_lt_of_ne h with h' | h'
  · rw [low_neg n d h', Int.neg_tdiv, Int.neg_tdiv, q1, q2]
    constructor
    · have : b < 0 := by
        rcases Int.lt_or_le b 0 with c | c
        · exact c
        · have := Int.mul_nonneg (Int.le_of_lt hg) c; omega
      show 0 < -b; omega
    · show -a * d = n * -b
      generalize g n d = k at *; subst ha; subst hb; grind
  · rw [low_pos n d h', q1, q2]
    constructor
    · show 0 < b
      rcases Int.lt_or_le 0 b with c | c
      · exact c
      · have := Int.mul_nonneg (Int.le_of_lt hg) (show 0 ≤ -b by omega)
        rw [Int.mul_neg] at this; omega
    · show a * d = n * b
      generalize g n d = k at *; subst ha; subst hb; grind

theorem g_neg (n d : Int) : g ((n.natAbs : Nat) : Int) (-d) = g n d := by unfold g Int.gcd; simp
theorem g_abs (n d : Int) : g ((n.natAbs : Nat) : Int) d = g n d := by unfold g Int.gcd; simp
def onGrid (p : Int × Int) : Bool := decide (-12 ≤ p.1 ∧ p.1 ≤ 12) && decide (-12 ≤ p.2 ∧ p.2 ≤ 12)
theorem all_snoc (ps : List (Int × Int)) (k : Nat) (h : k < ps.length) : (ps.take (k + 1)).all onGrid = ((ps.take k).all onGrid && onGrid ps[k]) := by
  rw [List.take_succ_eq_append_getElem h, List.all_append]; simp
theorem all_no (ps : List (Int × Int)) (k : Nat) (h : k < ps.length) (hn : onGrid ps[k] = false) : ps.all onGrid = false := by
  rw [List.all_eq_false]; exact ⟨ps[k], List.getElem_mem h, by simp [hn]⟩
theorem tdiv_bd (n k : Int) : -(n.natAbs : Int) ≤ n.tdiv k ∧ n.tdiv k ≤ (n.natAbs : Int) := by
  have h : (n.tdiv k).natAbs ≤ n.natAbs := by rw [Int.natAbs_tdiv]; exact Nat.div_le_self _ _
  omega
theorem g_le (n d : Int) (h : d ≠ 0) : g n d ≤ d.natAbs := by
  unfold g
  have := Nat.le_of_dvd (by omega) (Int.gcd_dvd_natAbs_right n d)
  omega
/-- by what both are divided -/
theorem com_bd (n d : Int) (h : d ≠ 0) : (-(d.natAbs : Int) ≤ g n d * sgn d ∧ g n d * sgn d ≤ d.natAbs) ∧ g n d * sgn d ≠ 0 := by
  have h1 := g_le n d h
  have h2 := g_pos n d h
  rcases Int.lt_or_lt_of_ne h with h' | h'
  · rw [sgn_neg h', Int.mul_neg, Int.mul_one]; omega
  · rw [sgn_pos h', Int.mul_one]; omega
theorem low_bd (n d : Int) : (-(n.natAbs : Int) ≤ (low n d).1 ∧ (low n d).1 ≤ n.natAbs) ∧ (-(d.natAbs : Int) ≤ (low n d).2 ∧ (low n d).2 ≤ d.natAbs) :=
  ⟨tdiv_bd _ _, tdiv_bd _ _⟩

/-- how far along the first edge the lines of both cross, of the turn -/
def share (a1 a2 c1 c2 d1 d2 : Int) : Int := (c1 - a1) * (d2 - c2) - (c2 - a2) * (d1 - c1)
def crossX (a1 a2 b1 c1 c2 d1 d2 t : Int) : Int × Int := low (a1 * t + share a1 a2 c1 c2 d1 d2 * (b1 - a1)) t
def crossY (a1 a2 b2 c1 c2 d1 d2 t : Int) : Int × Int := low (a2 * t + share a1 a2 c1 c2 d1 d2 * (b2 - a2)) t
def boxed (a1 a2 b1 b2 : Int) (x y : Int × Int) : Bool := btw x.1 x.2 a1 b1 && btw y.1 y.2 a2 b2
/-- where edges meet whose lines cross -/
def across (a1 a2 b1 b2 c1 c2 d1 d2 t : Int) : Int × (Int × Int) × (Int × Int) :=
  if boxed a1 a2 b1 b2 (crossX a1 a2 b1 c1 c2 d1 d2 t) (crossY a1 a2 b2 c1 c2 d1 d2 t) && boxed c1 c2 d1 d2 (crossX a1 a2 b1 c1 c2 d1 d2 t) (crossY a1 a2 b2 c1 c2 d1 d2 t) then (1, crossX a1 a2 b1 c1 c2 d1 d2 t, crossY a1 a2 b2 c1 c2 d1 d2 t) else (0, (0, 0), (0, 0))
theorem across_eq (a1 a2 b1 b2 c1 c2 d1 d2 t : Int) (x y : Int × Int) (hx : crossX a1 a2 b1 c1 c2 d1 d2 t = x) (hy : crossY a1 a2 b2 c1 c2 d1 d2 t = y) :
    across a1 a2 b1 b2 c1 c2 d1 d2 t = if boxed a1 a2 b1 b2 x y && boxed c1 c2 d1 d2 x y then (1, x, y) else (0, (0, 0), (0, 0)) := by
  subst hx; subst hy; rfl

end Go.Proofs.YtkjlkbgdkdcboaaGreatDoor.Acre

namespace Go.Proofs.YtkjlkbgdkdcboaaGreatDoor.Acre

abbrev Pt := Int × Int

def on2 (a b c d p : Pt) : Bool := onE a.1 a.2 b.1 b.2 p.1 1 p.2 1 && onE c.1 c.2 d.1 d.2 p.1 1 p.2 1
/-- the ends that are on both edges -/
def endsOf (a b c d : Pt) : List Pt := [a, b, c, d].filter (on2 a b c d)
/-- one place, some, or none -/
def tell (l : List Pt) : Int × (Int × Int) × (Int × Int) :=
  match l with
  | [] => (0, (0, 0), (0, 0))
  | p :: r => if r.all (fun q => q == p) then (1, (p.1, 1), (p.2, 1)) else (2, (0, 0), (0, 0))

/-- u: the different ones among l -/
structure Diff (l u : List Pt) : Prop where
  nodup : u.Nodup
  mem : ∀ p, p ∈ u ↔ p ∈ l

theorem Diff.nil : Diff [] [] := ⟨List.nodup_nil, fun _ => Iff.rfl⟩
theorem Diff.old {l u : List Pt} (h : Diff l u) {p : Pt} (hp : p ∈ u) : Diff (l ++ [p]) u :=
  ⟨h.nodup, fun q => by
    rw [List.mem_append, List.mem_singleton, ← h.mem]
    exact ⟨Or.inl, fun k => k.elim id (fun e => e ▸ hp)⟩⟩
theorem Diff.new {l u : List Pt} (h : Diff l u) {p : Pt} (hp : p ∉ u) : Diff (l ++ [p]) (u ++ [p]) :=
  ⟨List.nodup_append.2 ⟨h.nodup, by simp, fun a ha b hb => by
      simp only [List.mem_singleton] at hb; subst hb; exact fun e => hp (e ▸ ha)⟩,
   fun q => by rw [List.mem_append, List.mem_append, h.mem]⟩

theorem tell_none {l u : List Pt} (h : Diff l u) (hu : u.length = 0) : tell l = (0, (0, 0), (0, 0)) := by
  have : u = [] := List.length_eq_zero_iff.1 hu
  subst this
  cases l with
  | nil => rfl
  | cons p r => have := (h.mem p).2 (by simp); simp at this
theorem tell_one {l u : List Pt} (h : Diff l u) (hu : u.length = 1) {p : Pt} (hp : l.getLast? = some p) : tell l = (1, (p.1, 1), (p.2, 1)) := by
  obtain ⟨q, rfl⟩ := List.length_eq_one_iff.1 hu
  have hall : ∀ x ∈ l, x = q := fun x hx => by have := (h.mem x).2 hx; simpa using this
  have hpq : p = q := hall p (List.mem_of_getLast? hp)
  subst hpq
  cases l with
  | nil => simp at hp
  | cons a r =>
    have ha : a = p := hall a (by simp)
    subst ha
    unfold tell
    simp only
    rw [if_pos]
    rw [List.all_eq_true]
    intro x hx
    have := hall x (by simp [hx])
    simp [this]
theorem tell_more {l u : List Pt} (h : Diff l u) (h0 : u.length ≠ 0) (h1 : u.length ≠ 1) : tell l = (2, (0, 0), (0, 0)) := by
  match u, h with
  | [], _ => simp at h0
  | [_], _ => simp at h1
  | a :: b :: r, h =>
    have hab : a ≠ b := by have := h.nodup; simp at this; exact this.1.1
    have ha := (h.mem a).1 (by simp)
    have hb := (h.mem b).1 (by simp)
    match l with
    | [] => simp at ha
    | p :: t =>
      unfold tell
      simp only
      rw [if_neg]
      intro hall
      rw [List.all_eq_true] at hall
      have e : ∀ x ∈ p :: t, x = p := fun x hx => by
        rcases List.mem_cons.1 hx with k | k
        · exact k
        · simpa using hall x k
      exact hab ((e a ha).trans (e b hb).symm)

def turn (a b c d : Pt) : Int := (b.1 - a.1) * (d.2 - c.2) - (b.2 - a.2) * (d.1 - c.1)
/-- P5 -/
def meet (a b c d : Pt) : Int × (Int × Int) × (Int × Int) :=
  if [a, b, c, d].all onGrid then
    if turn a b c d = 0 then tell (endsOf a b c d) else across a.1 a.2 b.1 b.2 c.1 c.2 d.1 d.2 (turn a b c d)
  else (0, (0, 0), (0, 0))

end Go.Proofs.YtkjlkbgdkdcboaaGreatDoor.Acre

namespace Go.Proofs.YtkjlkbgdkdcboaaGreatDoor.Acre

theorem onE_first (a b : Pt) : onE a.1 a.2 b.1 b.2 a.1 1 a.2 1 = true := by
  unfold onE sd btw sgn
  simp
  omega
theorem onE_second (a b : Pt) : onE a.1 a.2 b.1 b.2 b.1 1 b.2 1 = true := by
  unfold onE sd btw
  have : (b.1 - a.1) * ((b.2 - a.2 * 1) * 1) - (b.2 - a.2) * ((b.1 - a.1 * 1) * 1) = 0 := by grind
  rw [this]
  simp [sgn]
  omega

def ends1 (a b c d : Pt) : List Pt := [a, b].filter fun p => onE c.1 c.2 d.1 d.2 p.1 1 p.2 1
theorem ends_eq (a b c d : Pt) : ends1 a b c d ++ ends1 c d a b = endsOf a b c d := by
  unfold ends1 endsOf
  have e : [a, b, c, d] = [a, b] ++ [c, d] := rfl
  rw [e, List.filter_append]
  congr 1
  · simp [List.filter_cons, on2, onE_first, onE_second]
  · simp [List.filter_cons, on2, onE_first, onE_second]

theorem sgn_iff (n : Int) : sgn n = 0 ↔ n = 0 := by
  unfold sgn; split
  · constructor <;> intro h <;> omega
  · split <;> constructor <;> intro h <;> omega

theorem cross_on (a b c d : Pt) (t : Int) (ht : t = turn a b c d) (h0 : t ≠ 0) :
    sd a.1 a.2 b.1 b.2 (crossX a.1 a.2 b.1 c.1 c.2 d.1 d.2 t).1 (crossX a.1 a.2 b.1 c.1 c.2 d.1 d.2 t).2 (crossY a.1 a.2 b.2 c.1 c.2 d.1 d.2 t).1 (crossY a.1 a.2 b.2 c.1 c.2 d.1 d.2 t).2 = 0 ∧
    sd c.1 c.2 d.1 d.2 (crossX a.1 a.2 b.1 c.1 c.2 d.1 d.2 t).1 (crossX a.1 a.2 b.1 c.1 c.2 d.1 d.2 t).2 (crossY a.1 a.2 b.2 c.1 c.2 d.1 d.2 t).1 (crossY a.1 a.2 b.2 c.1 c.2 d.1 d.2 t).2 = 0 := by
  obtain ⟨_, hx⟩ := low_spec (a.1 * t + share a.1 a.2 c.1 c.2 d.1 d.2 * (b.1 - a.1)) t h0
  obtain ⟨_, hy⟩ := low_spec (a.2 * t + share a.1 a.2 c.1 c.2 d.1 d.2 * (b.2 - a.2)) t h0
  unfold crossX crossY
  generalize low (a.1 * t + share a.1 a.2 c.1 c.2 d.1 d.2 * (b.1 - a.1)) t = x at *
  generalize low (a.2 * t + share a.1 a.2 c.1 c.2 d.1 d.2 * (b.2 - a.2)) t = y at *
  unfold sd
  rw [sgn_iff, sgn_iff]
  unfold share at hx hy
  unfold turn at ht
  constructor
  · refine (Int.mul_eq_zero.1 (?_ : t * _ = 0)).resolve_left h0
    grind
  · refine (Int.mul_eq_zero.1 (?_ : t * _ = 0)).resolve_left h0
    grind

theorem onE_boxed {a1 a2 b1 b2 : Int} {x y : Int × Int} (h : sd a1 a2 b1 b2 x.1 x.2 y.1 y.2 = 0) : onE a1 a2 b1 b2 x.1 x.2 y.1 y.2 = boxed a1 a2 b1 b2 x y := by
  unfold onE boxed; rw [h]; rfl

/-- as the document's own answer goes about it -/
theorem across_ref (a b c d : Pt) (h0 : turn a b c d ≠ 0) (x y : Int × Int) (hx : crossX a.1 a.2 b.1 c.1 c.2 d.1 d.2 (turn a b c d) = x) (hy : crossY a.1 a.2 b.2 c.1 c.2 d.1 d.2 (turn a b c d) = y) :
    across a.1 a.2 b.1 b.2 c.1 c.2 d.1 d.2 (turn a b c d) = if onE a.1 a.2 b.1 b.2 x.1 x.2 y.1 y.2 && onE c.1 c.2 d.1 d.2 x.1 x.2 y.1 y.2 then (1, x, y) else (0, (0, 0), (0, 0)) := by
  have h := cross_on a b c d _ rfl h0
  rw [hx, hy] at h
  rw [across_eq _ _ _ _ _ _ _ _ _ x y hx hy, onE_boxed h.1, onE_boxed h.2]

end Go.Proofs.YtkjlkbgdkdcboaaGreatDoor.Acre

namespace Go.Proofs.YtkjlkbgdkdcboaaGreatDoor.Acre

abbrev Ed := Pt × Pt

/-- the edge from its lower end, from left to right if it is level -/
def up (e : Ed) : Ed := if decide (e.2.2 < e.1.2) || (e.1.2 == e.2.2 && decide (e.2.1 < e.1.1)) then (e.2, e.1) else e

def isR (e : Ed) (x y : Int × Int) : Bool := (decide (0 ≤ sgn (y.1 - e.1.2 * y.2)) && decide (sgn (y.1 - e.2.2 * y.2) < 0)) && decide (0 < sd e.1.1 e.1.2 e.2.1 e.2.2 x.1 x.2 y.1 y.2)
def isOnE (e : Ed) (x y : Int × Int) : Bool := onE e.1.1 e.1.2 e.2.1 e.2.2 x.1 x.2 y.1 y.2

def near (f : Int × Int) : Bool := (decide (1 ≤ f.2) && decide (f.2 ≤ 1152)) && ((decide (-(13 * f.2) ≤ f.1) && decide (f.1 ≤ 13 * f.2)) && g f.1 f.2 == 1)
def ringOk (r : List Pt) : Bool := (decide (3 ≤ r.length) && decide (r.length ≤ 6)) && r.all onGrid
def fieldOk (f : List (List Pt)) : Bool := decide (f.length ≤ 2) && f.all ringOk

/-- the edges of a ring, from number k on -/
def edgesTo (r : List Pt) (k : Nat) : List Ed := (List.range k).map fun i => (r.getD i (0, 0), r.getD ((i + 1) % r.length) (0, 0))
def edgesOf (f : List (List Pt)) : List Ed := f.flatMap fun r => edgesTo r r.length

theorem edgesTo_succ (r : List Pt) (k : Nat) : edgesTo r (k + 1) = edgesTo r k ++ [(r.getD k (0, 0), r.getD ((k + 1) % r.length) (0, 0))] := by
  unfold edgesTo; rw [List.range_succ, List.map_append]; rfl

end Go.Proofs.YtkjlkbgdkdcboaaGreatDoor.Acre

namespace Go.Proofs.YtkjlkbgdkdcboaaGreatDoor.Acre

theorem sgn_abs (d : Int) (h : d ≠ 0) : (sgn d).natAbs = 1 := by
  unfold sgn; split
  · rfl
  · rw [if_pos (by omega)]; rfl
theorem low_cop (n d : Int) (h : d ≠ 0) : Nat.Coprime (low n d).1.natAbs (low n d).2.natAbs := by
  have hk : (g n d * sgn d).natAbs = Nat.gcd n.natAbs d.natAbs := by
    rw [Int.natAbs_mul, sgn_abs d h, Nat.mul_one]; rfl
  show Nat.Coprime (n.tdiv (g n d * sgn d)).natAbs (d.tdiv (g n d * sgn d)).natAbs
  rw [Int.natAbs_tdiv, Int.natAbs_tdiv, hk]
  have hp : 0 < Nat.gcd n.natAbs d.natAbs := Nat.gcd_pos_of_pos_right _ (by omega)
  exact Nat.coprime_div_gcd_div_gcd hp
theorem low_gcd (n d : Int) (h : d ≠ 0) : g (low n d).1 (low n d).2 = 1 := by
  have := low_cop n d h
  unfold g Int.gcd
  rw [this]; rfl

/-- a fraction in lowest terms is told by its value -/
theorem low_eq (n d n' d' : Int) (h : d ≠ 0) (h' : d' ≠ 0) (e : n * d' = n' * d) : low n d = low n' d' := by
  obtain ⟨p1, c1⟩ := low_spec n d h
  obtain ⟨p2, c2⟩ := low_spec n' d' h'
  have k1 := low_cop n d h
  have k2 := low_cop n' d' h'
  generalize low n d = x at *
  generalize low n' d' = y at *
  have hx : x.1 * y.2 = y.1 * x.2 := by
    have : (d * d') * (x.1 * y.2 - y.1 * x.2) = 0 := by grind
    rcases Int.mul_eq_zero.1 this with h0 | h0
    · rcases Int.mul_eq_zero.1 h0 with h1 | h1 <;> contradiction
    · omega
  have e1 : x.1.natAbs * y.2.natAbs = y.1.natAbs * x.2.natAbs := by rw [← Int.natAbs_mul, ← Int.natAbs_mul, hx]
  have d1 : x.2.natAbs ∣ y.2.natAbs := by
    have : x.2.natAbs ∣ x.1.natAbs * y.2.natAbs := ⟨y.1.natAbs, by rw [e1, Nat.mul_comm]⟩
    exact (Nat.Coprime.symm k1).dvd_of_dvd_mul_left this
  have d2 : y.2.natAbs ∣ x.2.natAbs := by
    have : y.2.natAbs ∣ y.1.natAbs * x.2.natAbs := ⟨x.1.natAbs, by rw [← e1, Nat.mul_comm]⟩
    exact (Nat.Coprime.symm k2).dvd_of_dvd_mul_left this
  have e2 : x.2.natAbs = y.2.natAbs := Nat.dvd_antisymm d1 d2
  have e3 : x.2 = y.2 := by omega
  have e4 : x.1 = y.1 := by
    rw [e3] at hx
    exact Int.eq_of_mul_eq_mul_right (by omega) hx
  exact Prod.ext e4 e3

theorem turn_swap (a b c d : Pt) : turn c d a b = -turn a b c d := by unfold turn; grind
theorem turn_back (a b c d : Pt) : turn b a d c = turn a b c d := by unfold turn; grind

theorem crossX_swap (a b c d : Pt) (h : turn a b c d ≠ 0) : crossX c.1 c.2 d.1 a.1 a.2 b.1 b.2 (turn c d a b) = crossX a.1 a.2 b.1 c.1 c.2 d.1 d.2 (turn a b c d) := by
  rw [turn_swap]
  unfold crossX
  refine low_eq _ _ _ _ (by omega) h ?_
  unfold share turn; grind
theorem crossY_swap (a b c d : Pt) (h : turn a b c d ≠ 0) : crossY c.1 c.2 d.2 a.1 a.2 b.1 b.2 (turn c d a b) = crossY a.1 a.2 b.2 c.1 c.2 d.1 d.2 (turn a b c d) := by
  rw [turn_swap]
  unfold crossY
  refine low_eq _ _ _ _ (by omega) h ?_
  unfold share turn; grind
theorem crossX_back (a b c d : Pt) : crossX b.1 b.2 a.1 d.1 d.2 c.1 c.2 (turn b a d c) = crossX a.1 a.2 b.1 c.1 c.2 d.1 d.2 (turn a b c d) := by
  rw [turn_back]
  unfold crossX
  congr 1
  unfold share turn; grind
theorem crossY_back (a b c d : Pt) : crossY b.1 b.2 a.2 d.1 d.2 c.1 c.2 (turn b a d c) = crossY a.1 a.2 b.2 c.1 c.2 d.1 d.2 (turn a b c d) := by
  rw [turn_back]
  unfold crossY
  congr 1
  unfold share turn; grind

theorem boxed_back (a1 a2 b1 b2 : Int) (x y : Int × Int) : boxed b1 b2 a1 a2 x y = boxed a1 a2 b1 b2 x y := by
  unfold boxed; rw [btw_swap x.1 x.2 b1 a1, btw_swap y.1 y.2 b2 a2]

theorem across_swap (a b c d : Pt) (h : turn a b c d ≠ 0) : across c.1 c.2 d.1 d.2 a.1 a.2 b.1 b.2 (turn c d a b) = across a.1 a.2 b.1 b.2 c.1 c.2 d.1 d.2 (turn a b c d) := by
  rw [across_eq c.1 c.2 d.1 d.2 a.1 a.2 b.1 b.2 (turn c d a b) _ _ (crossX_swap a b c d h) (crossY_swap a b c d h), across_eq a.1 a.2 b.1 b.2 c.1 c.2 d.1 d.2 (turn a b c d) _ _ rfl rfl, Bool.and_comm]
theorem across_back (a b c d : Pt) : across b.1 b.2 a.1 a.2 d.1 d.2 c.1 c.2 (turn b a d c) = across a.1 a.2 b.1 b.2 c.1 c.2 d.1 d.2 (turn a b c d) := by
  rw [across_eq b.1 b.2 a.1 a.2 d.1 d.2 c.1 c.2 (turn b a d c) _ _ (crossX_back a b c d) (crossY_back a b c d), across_eq a.1 a.2 b.1 b.2 c.1 c.2 d.1 d.2 (turn a b c d) _ _ rfl rfl, boxed_back a.1 a.2 b.1 b.2, boxed_back c.1 c.2 d.1 d.2]

theorem Diff.ex : ∀ l : List Pt, ∃ u, Diff l u
  | [] => ⟨[], Diff.nil⟩
  | p :: r => by
    obtain ⟨u, h⟩ := Diff.ex r
    by_cases hp : p ∈ u
    · exact ⟨u, h.nodup, fun q => by rw [List.mem_cons, ← h.mem]; exact ⟨Or.inr, fun k => k.elim (fun e => e ▸ hp) id⟩⟩
    · exact ⟨p :: u, List.nodup_cons.2 ⟨hp, h.nodup⟩, fun q => by rw [List.mem_cons, List.mem_cons, h.mem]⟩

theorem tell_same {l l' : List Pt} (h : ∀ p, p ∈ l ↔ p ∈ l') : tell l = tell l' := by
  obtain ⟨u, hu⟩ := Diff.ex l
  have hu' : Diff l' u := ⟨hu.nodup, fun p => by rw [hu.mem, h]⟩
  by_cases h0 : u.length = 0
  · rw [tell_none hu h0, tell_none hu' h0]
  · by_cases h1 : u.length = 1
    · obtain ⟨q, rfl⟩ := List.length_eq_one_iff.1 h1
      have last : ∀ {m : List Pt}, Diff m [q] → m.getLast? = some q := fun {m} hm => by
        cases e : m.getLast? with
        | none =>
          rw [List.getLast?_eq_none_iff] at e
          have := (hm.mem q).1 (by simp)
          rw [e] at this; simp at this
        | some p =>
          have := (hm.mem p).2 (List.mem_of_getLast? e)
          simp at this; rw [this]
      rw [tell_one hu h1 (last hu), tell_one hu' h1 (last hu')]
    · rw [tell_more hu h0 h1, tell_more hu' h0 h1]

theorem sd_back (a b : Pt) (x y : Int × Int) : (sd b.1 b.2 a.1 a.2 x.1 x.2 y.1 y.2 == 0) = (sd a.1 a.2 b.1 b.2 x.1 x.2 y.1 y.2 == 0) := by
  rw [Bool.eq_iff_iff, beq_iff_eq, beq_iff_eq]
  unfold sd
  rw [sgn_iff, sgn_iff]
  constructor <;> intro h <;> grind
theorem onE_back (a b : Pt) (x y : Int × Int) : onE b.1 b.2 a.1 a.2 x.1 x.2 y.1 y.2 = onE a.1 a.2 b.1 b.2 x.1 x.2 y.1 y.2 := by
  unfold onE
  rw [sd_back, btw_swap x.1 x.2 b.1 a.1, btw_swap y.1 y.2 b.2 a.2]

theorem ends_swap (a b c d : Pt) : tell (endsOf c d a b) = tell (endsOf a b c d) := by
  apply tell_same
  intro p
  unfold endsOf
  rw [List.mem_filter, List.mem_filter]
  unfold on2
  rw [Bool.and_comm]
  simp only [List.mem_cons, List.not_mem_nil, or_false]
  constructor <;> rintro ⟨h, k⟩ <;> exact ⟨by rcases h with h | h | h | h <;> simp [h], k⟩
theorem ends_back (a b c d : Pt) : tell (endsOf b a d c) = tell (endsOf a b c d) := by
  apply tell_same
  intro p
  unfold endsOf
  rw [List.mem_filter, List.mem_filter]
  have e : on2 b a d c p = on2 a b c d p := by
    unfold on2
    rw [onE_back a b (p.1, 1) (p.2, 1), onE_back c d (p.1, 1) (p.2, 1)]
  rw [e]
  simp only [List.mem_cons, List.not_mem_nil, or_false]
  constructor <;> rintro ⟨h, k⟩ <;> exact ⟨by rcases h with h | h | h | h <;> simp [h], k⟩

theorem grid_swap (a b c d : Pt) : [c, d, a, b].all onGrid = [a, b, c, d].all onGrid := by
  simp only [List.all_cons, List.all_nil, Bool.and_true]
  cases onGrid a <;> cases onGrid b <;> cases onGrid c <;> cases onGrid d <;> rfl
theorem grid_back (a b c d : Pt) : [b, a, d, c].all onGrid = [a, b, c, d].all onGrid := by
  simp only [List.all_cons, List.all_nil, Bool.and_true]
  cases onGrid a <;> cases onGrid b <;> cases onGrid c <;> cases onGrid d <;> rfl

theorem meet_swap (a b c d : Pt) : meet c d a b = meet a b c d := by
  unfold meet
  rw [grid_swap, ends_swap]
  by_cases h : turn a b c d = 0
  · rw [if_pos h, if_pos (show turn c d a b = 0 by rw [turn_swap, h]; rfl)]
  · rw [if_neg h, if_neg (show turn c d a b ≠ 0 by rw [turn_swap]; omega), across_swap a b c d h]
theorem meet_back (a b c d : Pt) : meet b a d c = meet a b c d := by
  unfold meet
  rw [grid_back, ends_back, turn_back, ← turn_back a b c d, across_back, turn_back]

end Go.Proofs.YtkjlkbgdkdcboaaGreatDoor.Acre

namespace Go.Proofs.YtkjlkbgdkdcboaaGreatDoor.Acre

/-- does the ray upwards meet the edge? -/
def abv (e : Ed) (x y : Int × Int) : Bool :=
  if e.2.1 < e.1.1 then (decide (e.2.1 * x.2 ≤ x.1) && decide (x.1 < e.1.1 * x.2)) && decide (sd e.2.1 e.2.2 e.1.1 e.1.2 x.1 x.2 y.1 y.2 < 0)
  else (decide (e.1.1 * x.2 ≤ x.1) && decide (x.1 < e.2.1 * x.2)) && decide (sd e.1.1 e.1.2 e.2.1 e.2.2 x.1 x.2 y.1 y.2 < 0)

/-- a point to the right of a place, and above it -/
def quad (p : Pt) (x y : Int × Int) : Bool := decide (0 < p.1 * x.2 - x.1) && decide (0 < p.2 * y.2 - y.1)

theorem sgn_lt (n : Int) : sgn n < 0 ↔ n < 0 := by unfold sgn; split <;> (try split) <;> omega
theorem sgn_gt (n : Int) : 0 < sgn n ↔ 0 < n := by unfold sgn; split <;> (try split) <;> omega
theorem sgn_ge (n : Int) : 0 ≤ sgn n ↔ 0 ≤ n := by unfold sgn; split <;> (try split) <;> omega

theorem sd_cross (a b : Pt) (x y : Int × Int) : sd a.1 a.2 b.1 b.2 x.1 x.2 y.1 y.2 = sgn ((a.1 * x.2 - x.1) * (b.2 * y.2 - y.1) - (b.1 * x.2 - x.1) * (a.2 * y.2 - y.1)) := by
  unfold sd; congr 1; grind

theorem cross_rule (xa ya xb yb : Int) (h : ¬ (xa * yb - xb * ya = 0 ∧ ((xa ≤ 0 ∧ 0 ≤ xb) ∨ (xb ≤ 0 ∧ 0 ≤ xa)) ∧ ((ya ≤ 0 ∧ 0 ≤ yb) ∨ (yb ≤ 0 ∧ 0 ≤ ya)))) :
    (((ya ≤ 0 ∧ 0 < yb ∧ 0 < xa * yb - xb * ya) ∨ (yb ≤ 0 ∧ 0 < ya ∧ xa * yb - xb * ya < 0)) ↔ ((xa ≤ 0 ∧ 0 < xb ∧ xa * yb - xb * ya < 0) ∨ (xb ≤ 0 ∧ 0 < xa ∧ 0 < xa * yb - xb * ya))) ↔ ((0 < xa ∧ 0 < ya) ↔ (0 < xb ∧ 0 < yb)) := by
  have p1 : 0 < xa → 0 < yb → 0 < xa * yb := Int.mul_pos
  have p2 : 0 < xb → 0 < ya → 0 < xb * ya := Int.mul_pos
  have p3 : xa ≤ 0 → 0 ≤ yb → xa * yb ≤ 0 := fun h1 h2 => Int.mul_nonpos_of_nonpos_of_nonneg h1 h2
  have p4 : xb ≤ 0 → 0 ≤ ya → xb * ya ≤ 0 := fun h1 h2 => Int.mul_nonpos_of_nonpos_of_nonneg h1 h2
  have p5 : 0 ≤ xa → yb ≤ 0 → xa * yb ≤ 0 := fun h1 h2 => Int.mul_nonpos_of_nonneg_of_nonpos h1 h2
  have p6 : 0 ≤ xb → ya ≤ 0 → xb * ya ≤ 0 := fun h1 h2 => Int.mul_nonpos_of_nonneg_of_nonpos h1 h2
  have p7 : xa ≤ 0 → yb ≤ 0 → 0 ≤ xa * yb := fun h1 h2 => Int.mul_nonneg_of_nonpos_of_nonpos h1 h2
  have p8 : xb ≤ 0 → ya ≤ 0 → 0 ≤ xb * ya := fun h1 h2 => Int.mul_nonneg_of_nonpos_of_nonpos h1 h2
  generalize xa * yb = P at *
  generalize xb * ya = Q at *
  omega

theorem isR_rule (a b : Pt) (x y : Int × Int) (hy : 0 < y.2) : isR (up (a, b)) x y = decide ((a.2 * y.2 - y.1 ≤ 0 ∧ 0 < b.2 * y.2 - y.1 ∧ 0 < (a.1 * x.2 - x.1) * (b.2 * y.2 - y.1) - (b.1 * x.2 - x.1) * (a.2 * y.2 - y.1)) ∨ (b.2 * y.2 - y.1 ≤ 0 ∧ 0 < a.2 * y.2 - y.1 ∧ (a.1 * x.2 - x.1) * (b.2 * y.2 - y.1) - (b.1 * x.2 - x.1) * (a.2 * y.2 - y.1) < 0)) := by
  unfold up
  rw [Bool.eq_iff_iff, decide_eq_true_eq]
  split
  · rename_i h
    have hle : b.2 ≤ a.2 := by simp at h; omega
    have := Int.mul_le_mul_of_nonneg_right hle (Int.le_of_lt hy)
    unfold isR
    rw [sd_cross]
    simp only [Bool.and_eq_true, decide_eq_true_eq, sgn_ge, sgn_lt, sgn_gt]
    generalize (a.1 * x.2 - x.1) * (b.2 * y.2 - y.1) = P
    generalize (b.1 * x.2 - x.1) * (a.2 * y.2 - y.1) = Q
    omega
  · rename_i h
    have hle : a.2 ≤ b.2 := by simp at h; omega
    have := Int.mul_le_mul_of_nonneg_right hle (Int.le_of_lt hy)
    unfold isR
    rw [sd_cross]
    simp only [Bool.and_eq_true, decide_eq_true_eq, sgn_ge, sgn_lt, sgn_gt]
    generalize (a.1 * x.2 - x.1) * (b.2 * y.2 - y.1) = P
    generalize (b.1 * x.2 - x.1) * (a.2 * y.2 - y.1) = Q
    omega

theorem abv_rule (a b : Pt) (x y : Int × Int) (hx : 0 < x.2) : abv (a, b) x y = decide ((a.1 * x.2 - x.1 ≤ 0 ∧ 0 < b.1 * x.2 - x.1 ∧ (a.1 * x.2 - x.1) * (b.2 * y.2 - y.1) - (b.1 * x.2 - x.1) * (a.2 * y.2 - y.1) < 0) ∨ (b.1 * x.2 - x.1 ≤ 0 ∧ 0 < a.1 * x.2 - x.1 ∧ 0 < (a.1 * x.2 - x.1) * (b.2 * y.2 - y.1) - (b.1 * x.2 - x.1) * (a.2 * y.2 - y.1))) := by
  unfold abv
  rw [Bool.eq_iff_iff, decide_eq_true_eq]
  split
  · rename_i h
    have := Int.mul_le_mul_of_nonneg_right (Int.le_of_lt h) (Int.le_of_lt hx)
    rw [sd_cross]
    simp only [Bool.and_eq_true, decide_eq_true_eq, sgn_lt] at *
    generalize (a.1 * x.2 - x.1) * (b.2 * y.2 - y.1) = P
    generalize (b.1 * x.2 - x.1) * (a.2 * y.2 - y.1) = Q
    omega
  · rename_i h
    have hle : a.1 ≤ b.1 := by simp at h; exact h
    have := Int.mul_le_mul_of_nonneg_right hle (Int.le_of_lt hx)
    rw [sd_cross]
    simp only [Bool.and_eq_true, decide_eq_true_eq, sgn_lt]
    generalize (a.1 * x.2 - x.1) * (b.2 * y.2 - y.1) = P
    generalize (b.1 * x.2 - x.1) * (a.2 * y.2 - y.1) = Q
    omega

theorem xor_rule (A B E F : Prop) [Decidable A] [Decidable B] [Decidable E] [Decidable F] (k : (A ↔ B) ↔ (E ↔ F)) : (decide A ^^ decide B) = (decide E ^^ decide F) := by
  by_cases A <;> by_cases B <;> by_cases E <;> by_cases F <;> simp_all

/-- of one edge that the place is not on -/
theorem edge_rule (a b : Pt) (x y : Int × Int) (hx : 0 < x.2) (hy : 0 < y.2) (h : isOnE (a, b) x y = false) : (isR (up (a, b)) x y ^^ abv (a, b) x y) = (quad a x y ^^ quad b x y) := by
  rw [isR_rule a b x y hy, abv_rule a b x y hx]
  have hn : ¬ ((a.1 * x.2 - x.1) * (b.2 * y.2 - y.1) - (b.1 * x.2 - x.1) * (a.2 * y.2 - y.1) = 0 ∧ ((a.1 * x.2 - x.1 ≤ 0 ∧ 0 ≤ b.1 * x.2 - x.1) ∨ (b.1 * x.2 - x.1 ≤ 0 ∧ 0 ≤ a.1 * x.2 - x.1)) ∧ ((a.2 * y.2 - y.1 ≤ 0 ∧ 0 ≤ b.2 * y.2 - y.1) ∨ (b.2 * y.2 - y.1 ≤ 0 ∧ 0 ≤ a.2 * y.2 - y.1))) := by
    rintro ⟨h1, h2, h3⟩
    have : isOnE (a, b) x y = true := by
      unfold isOnE onE btw
      dsimp only
      rw [sd_cross, h1]
      simp only [Bool.and_eq_true, decide_eq_true_eq]
      exact ⟨rfl, by omega, by omega⟩
    rw [h] at this; exact absurd this (by simp)
  have k := cross_rule _ _ _ _ hn
  unfold quad
  generalize (a.1 * x.2 - x.1) * (b.2 * y.2 - y.1) - (b.1 * x.2 - x.1) * (a.2 * y.2 - y.1) = C at *
  generalize a.1 * x.2 - x.1 = xa at *
  generalize b.1 * x.2 - x.1 = xb at *
  generalize a.2 * y.2 - y.1 = ya at *
  generalize b.2 * y.2 - y.1 = yb at *
  rw [← Bool.decide_and, ← Bool.decide_and]
  exact xor_rule _ _ _ _ k

/-- how often, modulo 2 -/
def par (l : List Bool) : Bool := l.foldr (fun a b => a ^^ b) false
theorem par_cons (a : Bool) (l : List Bool) : par (a :: l) = (a ^^ par l) := rfl
theorem par_append (l m : List Bool) : par (l ++ m) = (par l ^^ par m) := by
  induction l with
  | nil => simp [par]
  | cons a r ih => rw [List.cons_append, par_cons, par_cons, ih, Bool.xor_assoc]
theorem par_count (l : List Ed) (p : Ed → Bool) : (decide (l.countP p % 2 = 1)) = par (l.map p) := by
  induction l with
  | nil => simp [par]
  | cons e r ih =>
    rw [List.map_cons, par_cons, ← ih, List.countP_cons]
    cases p e
    · simp
    · simp only [if_true, Bool.true_xor]
      rw [← decide_not]
      exact decide_eq_decide.2 (by omega)
theorem par_xor (l : List Ed) (p q r : Ed → Bool) (h : ∀ e ∈ l, (p e ^^ q e) = r e) : (par (l.map p) ^^ par (l.map q)) = par (l.map r) := by
  induction l with
  | nil => rfl
  | cons e s ih =>
    have := ih (fun f hf => h f (by simp [hf]))
    rw [List.map_cons, List.map_cons, List.map_cons, par_cons, par_cons, par_cons, ← this, ← h e (by simp)]
    cases p e <;> cases q e <;> cases par (s.map p) <;> cases par (s.map q) <;> rfl

/-- round a ring a side changes an even number of times -/
theorem par_ring (r : List Pt) (Q : Pt → Bool) (h : ringOk r = true) : par ((edgesTo r r.length).map fun e => (Q e.1 ^^ Q e.2)) = false := by
  unfold ringOk at h
  simp only [Bool.and_eq_true, decide_eq_true_eq] at h
  obtain ⟨⟨h3, h6⟩, _⟩ := h
  match r, h3, h6 with
  | [a, b, c], _, _ =>
    simp [edgesTo, List.range, List.range.loop, par]
  | [a, b, c, d], _, _ =>
    simp [edgesTo, List.range, List.range.loop, par]
  | [a, b, c, d, e], _, _ =>
    simp [edgesTo, List.range, List.range.loop, par]
  | [a, b, c, d, e, f], _, _ =>
    simp [edgesTo, List.range, List.range.loop, par]
theorem par_field (R : List (List Pt)) (Q : Pt → Bool) (h : ∀ r ∈ R, ringOk r = true) : par ((edgesOf R).map fun e => (Q e.1 ^^ Q e.2)) = false := by
  unfold edgesOf
  induction R with
  | nil => rfl
  | cons r s ih =>
    rw [List.flatMap_cons, List.map_append, par_append, par_ring r Q (h r (by simp)), ih (fun t ht => h t (by simp [ht]))]
    rfl

theorem ring_of {R : List (List Pt)} (h : fieldOk R = true) : ∀ r ∈ R, ringOk r = true := by
  unfold fieldOk at h
  simp only [Bool.and_eq_true, List.all_eq_true] at h
  exact h.2

/-- a ray to the right and a ray upwards -/
theorem rays (R : List (List Pt)) (x y : Int × Int) (hF : fieldOk R = true) (hx : 0 < x.2) (hy : 0 < y.2) (ho : ∀ e ∈ edgesOf R, isOnE e x y = false) :
    (((edgesOf R).map up).countP (fun e => isR e x y) % 2 = 1) ↔ ((edgesOf R).countP (fun e => abv e x y) % 2 = 1) := by
  have h1 := par_count ((edgesOf R).map up) (fun e => isR e x y)
  have h2 := par_count (edgesOf R) (fun e => abv e x y)
  have h3 := par_xor (edgesOf R) (fun e => isR (up e) x y) (fun e => abv e x y) (fun e => (quad e.1 x y ^^ quad e.2 x y)) (fun e he => edge_rule e.1 e.2 x y hx hy (ho e he))
  rw [par_field R (fun p => quad p x y) (ring_of hF)] at h3
  rw [List.map_map] at h1
  have e : (fun e => isR e x y) ∘ up = fun e => isR (up e) x y := rfl
  rw [e] at h1
  rw [← decide_eq_decide, h1, h2]
  cases hp : par ((edgesOf R).map fun e => isR (up e) x y) <;> cases hq : par ((edgesOf R).map fun e => abv e x y) <;> simp_all

end Go.Proofs.YtkjlkbgdkdcboaaGreatDoor.Acre

namespace Go.Proofs.YtkjlkbgdkdcboaaGreatDoor.Slab

/-- what is kept of a slab: from each layer where keeping begins to the one where it ends -/
def bandsG {α : Type} : Bool → α → List (Bool × α) → List (α × α)
  | _, _, [] => []
  | ins, low, (fl, e) :: t =>
    if fl && !ins then bandsG true e t
    else if !fl && ins then (low, e) :: bandsG false low t
    else bandsG fl low t
/-- the last flag -/
def lastF {α : Type} : Bool → List (Bool × α) → Bool
  | ins, [] => ins
  | _, (fl, _) :: t => lastF fl t

theorem lastF_append {α : Type} (ins : Bool) (a b : List (Bool × α)) : lastF ins (a ++ b) = lastF (lastF ins a) b := by
  induction a generalizing ins with
  | nil => rfl
  | cons x t ih => obtain ⟨fl, e⟩ := x; exact ih fl

/-- above the spot: the one that is open there is closed once -/
theorem count_up {α : Type} (lo hi : α → Bool) : ∀ (U : List (Bool × α)) (ins : Bool) (low : α), (∀ x ∈ U, lo x.2 = false ∧ hi x.2 = true) → lastF ins U = false →
    (bandsG ins low U).countP (fun b => lo b.1 && hi b.2) = if (ins && lo low) = true then 1 else 0
  | [], ins, low, _, hf => by
    have : ins = false := hf
    subst this
    rfl
  | (fl, e) :: t, ins, low, hU, hf => by
    have he := hU (fl, e) (List.mem_cons_self)
    have ht : ∀ x ∈ t, lo x.2 = false ∧ hi x.2 = true := fun x hx => hU x (List.mem_cons_of_mem _ hx)
    have hf' : lastF fl t = false := hf
    cases fl <;> cases ins
    · simpa [bandsG] using count_up lo hi t false low ht hf'
    · simp only [bandsG, Bool.false_and, Bool.not_false, Bool.true_and, if_true, Bool.false_eq_true, if_false, List.countP_cons, he.2, Bool.and_true]
      rw [count_up lo hi t false low ht hf']
      simp
    · simp only [bandsG, Bool.not_false, Bool.and_true, if_true]
      rw [count_up lo hi t true e ht hf']
      simp [he.1]
    · simpa [bandsG] using count_up lo hi t true low ht hf'

/-- at the spot's height: nothing changes -/
theorem bands_mid {α : Type} : ∀ (M U : List (Bool × α)) (ins : Bool) (low : α), (∀ x ∈ M, x.1 = ins) → bandsG ins low (M ++ U) = bandsG ins low U
  | [], _, _, _, _ => rfl
  | (fl, e) :: t, U, ins, low, h => by
    have hfl : fl = ins := h (fl, e) (List.mem_cons_self)
    subst hfl
    have := bands_mid t U fl low (fun x hx => h x (List.mem_cons_of_mem _ hx))
    cases fl <;> simpa [bandsG] using this

/-- below the spot: what is closed there does not count -/
theorem count_low {α : Type} (lo hi : α → Bool) : ∀ (A B : List (Bool × α)) (ins : Bool) (low : α), (∀ x ∈ A, lo x.2 = true ∧ hi x.2 = false) → (ins = true → lo low = true) →
    ∃ low', (lastF ins A = true → lo low' = true) ∧ (bandsG ins low (A ++ B)).countP (fun b => lo b.1 && hi b.2) = (bandsG (lastF ins A) low' B).countP (fun b => lo b.1 && hi b.2)
  | [], B, ins, low, _, hl => ⟨low, hl, rfl⟩
  | (fl, e) :: t, B, ins, low, hA, hl => by
    have he := hA (fl, e) (List.mem_cons_self)
    have ht : ∀ x ∈ t, lo x.2 = true ∧ hi x.2 = false := fun x hx => hA x (List.mem_cons_of_mem _ hx)
    cases fl <;> cases ins
    · obtain ⟨l, h1, h2⟩ := count_low lo hi t B false low ht (fun h => by cases h)
      exact ⟨l, h1, by simpa [bandsG, lastF] using h2⟩
    · obtain ⟨l, h1, h2⟩ := count_low lo hi t B false low ht (fun h => by cases h)
      refine ⟨l, h1, ?_⟩
      simp only [List.cons_append, bandsG, Bool.false_and, Bool.not_false, Bool.true_and, if_true, Bool.false_eq_true, if_false, List.countP_cons, he.2, Bool.and_false, lastF]
      simpa using h2
    · obtain ⟨l, h1, h2⟩ := count_low lo hi t B true e ht (fun _ => he.1)
      exact ⟨l, h1, by simpa [bandsG, lastF] using h2⟩
    · obtain ⟨l, h1, h2⟩ := count_low lo hi t B true low ht hl
      exact ⟨l, h1, by simpa [bandsG, lastF] using h2⟩

/-- just one band goes across a spot that is kept, and none across another -/
theorem count_bands {α : Type} (lo hi : α → Bool) (A M U : List (Bool × α)) (d : α) (hA : ∀ x ∈ A, lo x.2 = true ∧ hi x.2 = false) (hM : ∀ x ∈ M, x.1 = lastF false A) (hU : ∀ x ∈ U, lo x.2 = false ∧ hi x.2 = true) (hf : lastF false (A ++ (M ++ U)) = false) :
    (bandsG false d (A ++ (M ++ U))).countP (fun b => lo b.1 && hi b.2) = if lastF false A = true then 1 else 0 := by
  obtain ⟨low', h1, h2⟩ := count_low lo hi A (M ++ U) false d hA (fun h => by cases h)
  rw [h2, bands_mid M U _ _ hM]
  have hlm : ∀ (M : List (Bool × α)) (b : Bool), (∀ x ∈ M, x.1 = b) → lastF b M = b := by
    intro M
    induction M with
    | nil => intro b _; rfl
    | cons x t ih =>
      intro b h
      obtain ⟨fl, e⟩ := x
      have : fl = b := h (fl, e) (List.mem_cons_self)
      subst this
      exact ih fl (fun y hy => h y (List.mem_cons_of_mem _ hy))
  rw [lastF_append, lastF_append, hlm M _ hM] at hf
  rw [count_up lo hi U _ low' hU hf]
  cases hc : lastF false A with
  | false => simp
  | true => simp [h1 hc]

/-- two lines that do not cross between f and t keep their order there -/
theorem lt_or_eq {a b : Rat} (h : a ≤ b) : a < b ∨ a = b := by grind

theorem affine_order {p q r s f t m x : Rat} (hno : ∀ z, f < z → z < t → p + q * z = r + s * z → q = s ∧ p = r) (hm : f < m) (hm2 : m < t) (h : p + q * m < r + s * m) (hx : f ≤ x) (hx2 : x < t) :
    p + q * x ≤ r + s * x ∧ (f < x → p + q * x < r + s * x) := by
  have key : ¬ r + s * x < p + q * x := by
    intro hlt
    -- a root between x and m
    obtain ⟨dx, hdx⟩ : ∃ dx, dx = (p + q * x) - (r + s * x) := ⟨_, rfl⟩
    obtain ⟨dm, hdm⟩ : ∃ dm, dm = (r + s * m) - (p + q * m) := ⟨_, rfl⟩
    have h1 : 0 < dx := by grind
    have h2 : 0 < dm := by grind
    obtain ⟨l, hl⟩ : ∃ l, l = dx / (dx + dm) := ⟨_, rfl⟩
    have h3 : l * (dx + dm) = dx := by rw [hl]; exact Rat.div_mul_cancel (by grind)
    have hl0 : 0 < l := by
      rcases Rat.le_total (a := l) (b := 0) with hle | hle
      · have := Rat.mul_nonneg (a := -l) (b := dx + dm) (by grind) (by grind)
        grind
      · rcases (lt_or_eq hle) with e | e
        · exact e
        · rw [← e] at h3; grind
    have hl1 : l < 1 := by
      rcases Rat.le_total (a := 1) (b := l) with hle | hle
      · have := Rat.mul_nonneg (a := l - 1) (b := dx + dm) (by grind) (by grind)
        grind
      · rcases (lt_or_eq hle) with e | e
        · exact e
        · rw [e] at h3; grind
    obtain ⟨z, hz⟩ : ∃ z, z = x + l * (m - x) := ⟨_, rfl⟩
    have hd : p + q * z = r + s * z := by
      rw [hz]
      grind
    have hzf : f < z ∧ z < t := by
      rcases Rat.le_total (a := x) (b := m) with hxm | hxm
      · have b1 := Rat.mul_nonneg (a := 1 - l) (b := m - x) (by grind) (by grind)
        rcases (lt_or_eq hxm) with e | e
        · have b2 := Rat.mul_pos (a := l) (b := m - x) hl0 (by grind)
          grind
        · grind
      · have b1 := Rat.mul_nonneg (a := 1 - l) (b := x - m) (by grind) (by grind)
        have b2 := Rat.mul_nonneg (a := l) (b := x - m) (by grind) (by grind)
        grind
    obtain ⟨e1, e2⟩ := hno z hzf.1 hzf.2 hd
    subst e1; subst e2
    grind
  refine ⟨by grind, fun hfx => ?_⟩
  rcases lt_or_eq (show p + q * x ≤ r + s * x by grind) with e | e
  · exact e
  · obtain ⟨e1, e2⟩ := hno x hfx hx2 e
    subst e1; subst e2
    grind

end Go.Proofs.YtkjlkbgdkdcboaaGreatDoor.Slab

namespace Go.Proofs.YtkjlkbgdkdcboaaGreatDoor.Acre

/-- a fraction -/
abbrev Fc := Int × Int
/-- in lowest terms -/
def Red (f : Fc) : Prop := 0 < f.2 ∧ g f.1 f.2 = 1
def ordF (f h : Fc) : Int := sgn (f.1 * h.2 - h.1 * f.2)
abbrev Lt (f h : Fc) : Prop := f.1 * h.2 < h.1 * f.2

theorem mul_lt_of {a b k : Int} (hk : 0 < k) : a * k < b * k ↔ a < b := by
  constructor
  · intro h
    exact Int.lt_of_mul_lt_mul_right h (by omega)
  · intro h
    exact Int.mul_lt_mul_of_pos_right h hk
theorem Lt.trans {a b c : Fc} (ha : 0 < a.2) (hb : 0 < b.2) (hc : 0 < c.2) (h : Lt a b) (k : Lt b c) : Lt a c := by
  unfold Lt at *
  have h1 := (mul_lt_of hc).2 h
  have h2 := (mul_lt_of ha).2 k
  apply (mul_lt_of hb).1
  grind
theorem Lt.irrefl (a : Fc) : ¬ Lt a a := by unfold Lt; omega
theorem Lt.asymm {a b : Fc} (h : Lt a b) : ¬ Lt b a := by unfold Lt at *; omega

theorem cop_of {n d : Int} (h : g n d = 1) : Nat.Coprime n.natAbs d.natAbs := by
  unfold g Int.gcd at h
  exact_mod_cast h
theorem Red.eq {f h : Fc} (hf : Red f) (hh : Red h) (e : f.1 * h.2 = h.1 * f.2) : f = h := by
  obtain ⟨n, d⟩ := f
  obtain ⟨m, c⟩ := h
  obtain ⟨h1, h2⟩ := hf
  obtain ⟨h3, h4⟩ := hh
  dsimp only at *
  have c1 := cop_of h2
  have c2 := cop_of h4
  have e' : n.natAbs * c.natAbs = m.natAbs * d.natAbs := by
    rw [← Int.natAbs_mul, ← Int.natAbs_mul, e]
  have d1 : d.natAbs ∣ c.natAbs := c1.symm.dvd_of_dvd_mul_left ⟨m.natAbs, by rw [e']; exact Nat.mul_comm _ _⟩
  have d2 : c.natAbs ∣ d.natAbs := c2.symm.dvd_of_dvd_mul_left ⟨n.natAbs, by rw [← e']; exact Nat.mul_comm _ _⟩
  have hdc : d = c := by have := Nat.dvd_antisymm d1 d2; omega
  subst hdc
  have hnm : n = m := by
    have := Int.mul_eq_mul_right_iff (show d ≠ 0 by omega) |>.1 e
    exact this
  rw [hnm]
theorem Lt.total {a b : Fc} (ha : Red a) (hb : Red b) (h : a ≠ b) : Lt a b ∨ Lt b a := by
  unfold Lt
  by_cases e : a.1 * b.2 = b.1 * a.2
  · exact absurd (ha.eq hb e) h
  · omega

/-- put in, if it is not there -/
def insF (x : Fc) : List Fc → List Fc
  | [] => [x]
  | y :: t => if x = y then y :: t else if Lt x y then x :: y :: t else y :: insF x t
/-- the different ones, in order -/
def sortD (l : List Fc) : List Fc := l.foldr insF []

theorem mem_insF (x z : Fc) (l : List Fc) : z ∈ insF x l ↔ z = x ∨ z ∈ l := by
  induction l with
  | nil => simp [insF]
  | cons y t ih =>
    unfold insF
    split
    · rename_i h; subst h; simp
    · split
      · simp
      · simp only [List.mem_cons, ih]
        constructor
        · rintro (h | h | h) <;> simp [h]
        · rintro (h | h | h) <;> simp [h]
theorem mem_sortD (z : Fc) (l : List Fc) : z ∈ sortD l ↔ z ∈ l := by
  unfold sortD
  induction l with
  | nil => simp
  | cons y t ih => simp [mem_insF, ih]
theorem insF_sorted (x : Fc) (l : List Fc) (hx : Red x) (hl : ∀ z ∈ l, Red z) (h : l.Pairwise Lt) : (insF x l).Pairwise Lt := by
  induction l with
  | nil => simp [insF]
  | cons y t ih =>
    rw [List.pairwise_cons] at h
    have hy := hl y (by simp)
    have ht : ∀ z ∈ t, Red z := fun z hz => hl z (by simp [hz])
    unfold insF
    split
    · exact List.pairwise_cons.2 h
    · rename_i hne
      split
      · rename_i hlt
        refine List.pairwise_cons.2 ⟨fun z hz => ?_, List.pairwise_cons.2 h⟩
        rcases List.mem_cons.1 hz with rfl | hz
        · exact hlt
        · exact hlt.trans hx.1 hy.1 (ht z hz).1 (h.1 z hz)
      · rename_i hlt
        refine List.pairwise_cons.2 ⟨fun z hz => ?_, ih ht h.2⟩
        rcases (mem_insF x z t).1 hz with rfl | hz
        · exact (Lt.total hx hy hne).resolve_left hlt
        · exact h.1 z hz
theorem sortD_sorted (l : List Fc) (hl : ∀ z ∈ l, Red z) : (sortD l).Pairwise Lt := by
  induction l with
  | nil => simp [sortD]
  | cons y t ih =>
    have ht : ∀ z ∈ t, Red z := fun z hz => hl z (by simp [hz])
    show (insF y (sortD t)).Pairwise Lt
    exact insF_sorted y _ (hl y (by simp)) (fun z hz => ht z ((mem_sortD z t).1 hz)) (ih ht)
/-- there is but one row of these, in order -/
theorem sorted_one : ∀ (l m : List Fc), l.Pairwise Lt → m.Pairwise Lt → (∀ x, x ∈ l ↔ x ∈ m) → l = m
  | [], [], _, _, _ => rfl
  | [], b :: m, _, _, h => by have := (h b).2 (by simp); simp at this
  | a :: l, [], _, _, h => by have := (h a).1 (by simp); simp at this
  | a :: l, b :: m, hl, hm, h => by
    rw [List.pairwise_cons] at hl hm
    have hab : a = b := by
      rcases List.mem_cons.1 ((h a).1 (by simp)) with e | e
      · exact e
      · rcases List.mem_cons.1 ((h b).2 (by simp)) with e' | e'
        · exact e'.symm
        · exact absurd (hm.1 a e) (Lt.asymm (hl.1 b e'))
    subst hab
    have : l = m := sorted_one l m hl.2 hm.2 (fun x => by
      constructor
      · intro hx
        rcases List.mem_cons.1 ((h x).1 (by simp [hx])) with e | e
        · subst e; exact absurd (hl.1 x hx) (Lt.irrefl x)
        · exact e
      · intro hx
        rcases List.mem_cons.1 ((h x).2 (by simp [hx])) with e | e
        · subst e; exact absurd (hm.1 x hx) (Lt.irrefl x)
        · exact e)
    rw [this]
theorem sortD_one {l m : List Fc} (hl : ∀ z ∈ l, Red z) (hm : m.Pairwise Lt) (h : ∀ x, x ∈ m ↔ x ∈ l) : m = sortD l :=
  sorted_one _ _ hm (sortD_sorted l hl) (fun x => by rw [mem_sortD]; exact h x)

theorem low_red (n d : Int) (h : d ≠ 0) : Red (low n d) := ⟨(low_spec n d h).1, low_gcd n d h⟩
theorem one_red (n : Int) : Red (n, 1) := ⟨by show (0 : Int) < 1; omega, by unfold g; simp⟩

end Go.Proofs.YtkjlkbgdkdcboaaGreatDoor.Acre

namespace Go.Proofs.YtkjlkbgdkdcboaaGreatDoor.Acre

/-- a fraction's value -/
def v (f : Fc) : Rat := (f.1 : Rat) / (f.2 : Rat)
/-- the height of the line through an edge that is not upright -/
def ly (e : Ed) (X : Rat) : Rat := (e.1.2 : Rat) + (X - (e.1.1 : Rat)) * (((e.2.2 - e.1.2 : Int) : Rat) / ((e.2.1 - e.1.1 : Int) : Rat))
def upr (e : Ed) : Bool := e.1.1 == e.2.1
def hgt (e : Ed) (x : Fc) : Fc := low (e.1.2 * (e.2.1 - e.1.1) * x.2 + (x.1 - e.1.1 * x.2) * (e.2.2 - e.1.2)) ((e.2.1 - e.1.1) * x.2)
def mdn (f h : Fc) : Fc := low (f.1 + h.1) (f.2 + h.2)

theorem rlt {a b k : Rat} (hk : 0 < k) : a * k < b * k ↔ a < b := by
  constructor
  · intro h
    rcases Rat.le_total (a := b) (b := a) with hle | hle
    · have := Rat.mul_nonneg (a := a - b) (b := k) (by grind) (by grind)
      grind
    · rcases Slab.lt_or_eq hle with e | e
      · exact e
      · subst e; grind
  · intro h
    have := Rat.mul_pos (a := b - a) (b := k) (by grind) hk
    grind
theorem cpos {n : Int} (h : 0 < n) : (0 : Rat) < (n : Rat) := by exact_mod_cast h
theorem cne {n : Int} (h : n ≠ 0) : (n : Rat) ≠ 0 := by exact_mod_cast h
theorem v_mul {f : Fc} (h : f.2 ≠ 0) : v f * (f.2 : Rat) = (f.1 : Rat) := by unfold v; exact Rat.div_mul_cancel (cne h)
theorem v_lt {f h : Fc} (hf : 0 < f.2) (hh : 0 < h.2) : v f < v h ↔ Lt f h := by
  have e1 := v_mul (f := f) (by omega)
  have e2 := v_mul (f := h) (by omega)
  have k1 := cpos hf
  have k2 := cpos hh
  have k := Rat.mul_pos k1 k2
  rw [← rlt k]
  have a1 : v f * ((f.2 : Rat) * (h.2 : Rat)) = ((f.1 * h.2 : Int) : Rat) := by rw [Rat.intCast_mul, ← e1]; grind
  have a2 : v h * ((f.2 : Rat) * (h.2 : Rat)) = ((h.1 * f.2 : Int) : Rat) := by rw [Rat.intCast_mul, ← e2]; grind
  rw [a1, a2]
  unfold Lt
  exact Rat.intCast_lt_intCast
theorem v_eq {f h : Fc} (hf : Red f) (hh : Red h) (e : v f = v h) : f = h := by
  apply hf.eq hh
  have e1 := v_mul (f := f) (by have := hf.1; omega)
  have e2 := v_mul (f := h) (by have := hh.1; omega)
  have : ((f.1 * h.2 : Int) : Rat) = ((h.1 * f.2 : Int) : Rat) := by rw [Rat.intCast_mul, Rat.intCast_mul, ← e1, ← e2, e]; grind
  exact_mod_cast this
theorem v_low (n d : Int) (h : d ≠ 0) : v (low n d) * (d : Rat) = (n : Rat) := by
  obtain ⟨h1, h2⟩ := low_spec n d h
  have e1 := v_mul (f := low n d) (by omega)
  have h3 : ((low n d).1 : Rat) * (d : Rat) = (n : Rat) * ((low n d).2 : Rat) := by exact_mod_cast h2
  have k := cpos h1
  have : (v (low n d) * (d : Rat) - (n : Rat)) * ((low n d).2 : Rat) = 0 := by grind
  rcases Rat.mul_eq_zero.1 this with e | e <;> grind
theorem v_one (n : Int) : v (n, 1) = (n : Rat) := by have := v_mul (f := (n, 1)) (by simp); simpa using this

theorem ly_mul (e : Ed) (X : Rat) (h : upr e = false) : ly e X * ((e.2.1 - e.1.1 : Int) : Rat) = (e.1.2 : Rat) * ((e.2.1 - e.1.1 : Int) : Rat) + (X - (e.1.1 : Rat)) * ((e.2.2 - e.1.2 : Int) : Rat) := by
  unfold upr at h
  have hd : e.2.1 - e.1.1 ≠ 0 := by simp at h; omega
  have := Rat.div_mul_cancel (a := ((e.2.2 - e.1.2 : Int) : Rat)) (cne hd)
  unfold ly
  grind
theorem hgt_red (e : Ed) (x : Fc) (h : upr e = false) (hx : 0 < x.2) : Red (hgt e x) := by
  unfold hgt
  apply low_red
  unfold upr at h
  simp at h
  exact Int.mul_ne_zero (by omega) (by omega)
theorem v_hgt (e : Ed) (x : Fc) (h : upr e = false) (hx : 0 < x.2) : v (hgt e x) = ly e (v x) := by
  have hd : e.2.1 - e.1.1 ≠ 0 := by unfold upr at h; simp at h; omega
  have hk : (e.2.1 - e.1.1) * x.2 ≠ 0 := Int.mul_ne_zero hd (by omega)
  have h1 := v_low (e.1.2 * (e.2.1 - e.1.1) * x.2 + (x.1 - e.1.1 * x.2) * (e.2.2 - e.1.2)) _ hk
  have h2 := ly_mul e (v x) h
  have h3 := v_mul (f := x) (by omega)
  have hk2 := cne hk
  have : (v (hgt e x) - ly e (v x)) * (((e.2.1 - e.1.1) * x.2 : Int) : Rat) = 0 := by
    have h1' : v (hgt e x) * (((e.2.1 - e.1.1) * x.2 : Int) : Rat) = ((e.1.2 * (e.2.1 - e.1.1) * x.2 + (x.1 - e.1.1 * x.2) * (e.2.2 - e.1.2) : Int) : Rat) := h1
    simp only [Rat.intCast_mul, Rat.intCast_add, Rat.intCast_sub] at h1' h2 ⊢
    grind
  rcases Rat.mul_eq_zero.1 this with e | e
  · grind
  · exact absurd e hk2
theorem mdn_between {f h : Fc} (hf : 0 < f.2) (hh : 0 < h.2) (hl : Lt f h) : 0 < (mdn f h).2 ∧ v f < v (mdn f h) ∧ v (mdn f h) < v h := by
  have hs : f.2 + h.2 ≠ 0 := by omega
  have hr := low_red (f.1 + h.1) (f.2 + h.2) hs
  have h1 := v_low (f.1 + h.1) (f.2 + h.2) hs
  have e1 := v_mul (f := f) (by omega)
  have e2 := v_mul (f := h) (by omega)
  have k1 := cpos hf
  have k2 := cpos hh
  have hlt := (v_lt hf hh).2 hl
  have m1 := Rat.mul_pos (a := v h - v f) (b := (h.2 : Rat)) (by grind) k2
  have m2 := Rat.mul_pos (a := v h - v f) (b := (f.2 : Rat)) (by grind) k1
  have k3 := cpos (n := f.2 + h.2) (by omega)
  refine ⟨hr.1, ?_, ?_⟩
  · rw [← rlt k3]
    show v f * _ < v (low (f.1 + h.1) (f.2 + h.2)) * _
    rw [h1]
    simp only [Rat.intCast_add] at *
    grind
  · rw [← rlt k3]
    show v (low (f.1 + h.1) (f.2 + h.2)) * _ < _
    rw [h1]
    simp only [Rat.intCast_add] at *
    grind

end Go.Proofs.YtkjlkbgdkdcboaaGreatDoor.Acre

namespace Go.Proofs.YtkjlkbgdkdcboaaGreatDoor.Acre

/-- between f and t nothing begins, ends or crosses -/
structure Gap (E : List Ed) (f t : Fc) : Prop where
  rf : Red f
  rt : Red t
  lt : Lt f t
  ends : ∀ e ∈ E, ((e.1.1 : Rat) ≤ v f ∨ v t ≤ (e.1.1 : Rat)) ∧ ((e.2.1 : Rat) ≤ v f ∨ v t ≤ (e.2.1 : Rat))
  cross : ∀ e ∈ E, ∀ e' ∈ E, upr e = false → upr e' = false → ∀ z, v f < z → z < v t → ly e z = ly e' z → ∀ z', ly e z' = ly e' z'

def slp (e : Ed) : Rat := ((e.2.2 - e.1.2 : Int) : Rat) / ((e.2.1 - e.1.1 : Int) : Rat)
theorem ly_aff (e : Ed) (X : Rat) : ly e X = ((e.1.2 : Rat) - (e.1.1 : Rat) * slp e) + slp e * X := by
  unfold ly slp; grind

theorem Gap.mid {E : List Ed} {f t : Fc} (G : Gap E f t) : 0 < (mdn f t).2 ∧ v f < v (mdn f t) ∧ v (mdn f t) < v t := mdn_between G.rf.1 G.rt.1 G.lt
theorem Gap.same {E : List Ed} {f t : Fc} (G : Gap E f t) {e e' : Ed} (he : e ∈ E) (he' : e' ∈ E) (hu : upr e = false) (hu' : upr e' = false) (h : hgt e (mdn f t) = hgt e' (mdn f t)) (X : Rat) : ly e X = ly e' X := by
  obtain ⟨m0, m1, m2⟩ := G.mid
  refine G.cross e he e' he' hu hu' (v (mdn f t)) m1 m2 ?_ X
  rw [← v_hgt e _ hu m0, ← v_hgt e' _ hu' m0, h]
theorem Gap.le {E : List Ed} {f t : Fc} (G : Gap E f t) {e e' : Ed} (he : e ∈ E) (he' : e' ∈ E) (hu : upr e = false) (hu' : upr e' = false) (h : Lt (hgt e (mdn f t)) (hgt e' (mdn f t))) {X : Rat} (hX : v f ≤ X) (hX2 : X < v t) : ly e X ≤ ly e' X := by
  obtain ⟨m0, m1, m2⟩ := G.mid
  have hm : ly e (v (mdn f t)) < ly e' (v (mdn f t)) := by
    rw [← v_hgt e _ hu m0, ← v_hgt e' _ hu' m0]
    exact (v_lt (hgt_red e _ hu m0).1 (hgt_red e' _ hu' m0).1).2 h
  rw [ly_aff, ly_aff] at hm ⊢
  refine (Slab.affine_order (f := v f) (t := v t) (m := v (mdn f t)) ?_ m1 m2 hm hX hX2).1
  intro z z1 z2 hz
  have hall := G.cross e he e' he' hu hu' z z1 z2 (by rw [ly_aff, ly_aff]; exact hz)
  have h0 := hall 0
  have h1 := hall 1
  rw [ly_aff, ly_aff] at h0 h1
  constructor <;> grind

/-- the edge is there at X: its left end belongs to it -/
def inX (e : Ed) (X : Rat) : Bool := decide (((e.1.1 : Rat) ≤ X ∧ X < (e.2.1 : Rat)) ∨ ((e.2.1 : Rat) ≤ X ∧ X < (e.1.1 : Rat)))
def spn (e : Ed) (f t : Fc) : Bool := btw f.1 f.2 e.1.1 e.2.1 && btw t.1 t.2 e.1.1 e.2.1

theorem le_v {a : Int} {f : Fc} (hf : 0 < f.2) : a * f.2 ≤ f.1 ↔ (a : Rat) ≤ v f := by
  have h := v_lt (f := f) (h := (a, 1)) hf (by show (0 : Int) < 1; omega)
  rw [v_one] at h
  unfold Lt at h
  simp only [Int.mul_one] at h
  constructor
  · intro h'
    rcases Rat.le_total (a := (a : Rat)) (b := v f) with e | e
    · exact e
    · rcases Slab.lt_or_eq e with e | e
      · have := h.1 e; omega
      · rw [e]; exact Rat.le_refl
  · intro h'
    rcases Int.lt_or_le f.1 (a * f.2) with e | e
    · have := h.2 e; grind
    · exact e
theorem v_le {a : Int} {f : Fc} (hf : 0 < f.2) : f.1 ≤ a * f.2 ↔ v f ≤ (a : Rat) := by
  have h := v_lt (f := (a, 1)) (h := f) (by show (0 : Int) < 1; omega) hf
  rw [v_one] at h
  unfold Lt at h
  simp only [Int.mul_one] at h
  constructor
  · intro h'
    rcases Rat.le_total (a := v f) (b := (a : Rat)) with e | e
    · exact e
    · rcases Slab.lt_or_eq e with e | e
      · have := h.1 e; omega
      · rw [e]; exact Rat.le_refl
  · intro h'
    rcases Int.lt_or_le (a * f.2) f.1 with e | e
    · have := h.2 e; grind
    · exact e
theorem btw_v {f : Fc} (hf : 0 < f.2) (a b : Int) : btw f.1 f.2 a b = true ↔ ((a : Rat) ≤ v f ∧ v f ≤ (b : Rat)) ∨ ((b : Rat) ≤ v f ∧ v f ≤ (a : Rat)) := by
  unfold btw
  rw [decide_eq_true_eq, le_v hf, le_v hf, v_le hf, v_le hf]

theorem Gap.spans {E : List Ed} {f t : Fc} (G : Gap E f t) {e : Ed} (he : e ∈ E) {X : Rat} (hX : v f ≤ X) (hX2 : X < v t) : (!upr e && spn e f t) = inX e X := by
  have hends := G.ends e he
  have hlt := (v_lt G.rf.1 G.rt.1).2 G.lt
  rw [Bool.eq_iff_iff]
  unfold spn inX upr
  rw [Bool.and_eq_true, Bool.and_eq_true, btw_v G.rf.1, btw_v G.rt.1, decide_eq_true_eq]
  simp only [Bool.not_eq_true', beq_eq_false_iff_ne, ne_eq]
  constructor
  · rintro ⟨hu, h1, h2⟩
    have hu' : ¬ (e.1.1 : Rat) = (e.2.1 : Rat) := fun h => hu (by exact_mod_cast h)
    grind
  · intro h
    refine ⟨fun hu => ?_, ?_, ?_⟩
    · rw [hu] at h; grind
    · grind
    · grind

end Go.Proofs.YtkjlkbgdkdcboaaGreatDoor.Acre

namespace Go.Proofs.YtkjlkbgdkdcboaaGreatDoor.Acre

def zed : Ed := ((0, 0), (0, 0))
/-- the edge of that number -/
def gd (E : List Ed) (n : Nat) : Ed := E.getD n zed
/-- the heights of the lines at x, from below -/
def hts (E : List Ed) (x : Fc) : List Fc := sortD ((E.filter (fun e => !upr e)).map (fun e => hgt e x))
/-- the numbers of the edges whose lines are that high -/
def numsAt (E : List Ed) (x h : Fc) : List Nat := (List.range E.length).filter (fun n => !upr (gd E n) && hgt (gd E n) x == h)
/-- those that go all along -/
def spAt (E : List Ed) (f t h : Fc) : List Nat := (numsAt E (mdn f t) h).filter (fun n => spn (gd E n) f t)
/-- how many of the one field's or of the other's -/
def cntB (E : List Ed) (k : Nat) (f t : Fc) (A : List Fc) (o : Bool) : Nat := (A.flatMap (spAt E f t)).countP (fun n => decide (k ≤ n) == o)
def opK (op : Int) (a b : Bool) : Bool := if op = 0 then a && b else if op = 1 then a || b else if op = 2 then a && !b else a != b
def keepsB (op : Int) (a b : Nat) : Bool := opK op (a % 2 == 1) (b % 2 == 1)
/-- what the op keeps above those heights -/
def insAt (E : List Ed) (k : Nat) (op : Int) (f t : Fc) (A : List Fc) : Bool := keepsB op (cntB E k f t A false) (cntB E k f t A true)
def edgeAt (E : List Ed) (f t h : Fc) : Ed := match spAt E f t h with | [] => zed | n :: _ => gd E n
/-- the layers from below, by their heights -/
def flagsL (ins : List Fc → Bool) : List Fc → List Fc → List (Bool × Fc)
  | _, [] => []
  | done, h :: r => (ins (done ++ [h]), h) :: flagsL ins (done ++ [h]) r

theorem flagsL_append (ins : List Fc → Bool) (done A B : List Fc) : flagsL ins done (A ++ B) = flagsL ins done A ++ flagsL ins (done ++ A) B := by
  induction A generalizing done with
  | nil => simp [flagsL]
  | cons a r ih => simp [flagsL, ih, List.append_assoc]
theorem flagsL_last (ins : List Fc → Bool) (done A : List Fc) : Slab.lastF (ins done) (flagsL ins done A) = ins (done ++ A) := by
  induction A generalizing done with
  | nil => simp [flagsL, Slab.lastF]
  | cons a r ih => simp [flagsL, Slab.lastF, ih, List.append_assoc]
theorem flagsL_mem {ins : List Fc → Bool} {done A : List Fc} {x : Bool × Fc} (h : x ∈ flagsL ins done A) : x.2 ∈ A ∧ ∃ B C, A = B ++ C ∧ x.1 = ins (done ++ B) := by
  induction A generalizing done with
  | nil => simp [flagsL] at h
  | cons a r ih =>
    simp only [flagsL, List.mem_cons] at h
    rcases h with rfl | h
    · exact ⟨by simp, [a], r, rfl, rfl⟩
    · obtain ⟨h1, B, C, h2, h3⟩ := ih h
      exact ⟨by simp [h1], a :: B, C, by rw [h2]; rfl, by rw [h3]; simp [List.append_assoc]⟩

theorem bandsG_any {α : Type} (low low' : α) (l : List (Bool × α)) : Slab.bandsG false low l = Slab.bandsG false low' l := by
  induction l generalizing low low' with
  | nil => rfl
  | cons x t ih =>
    obtain ⟨fl, e⟩ := x
    cases fl
    · simpa [Slab.bandsG] using ih low low'
    · simp [Slab.bandsG]
theorem bandsG_map {α β : Type} (φ : α → β) (ins : Bool) (low : α) (l : List (Bool × α)) : Slab.bandsG ins (φ low) (l.map (fun x => (x.1, φ x.2))) = (Slab.bandsG ins low l).map (fun b => (φ b.1, φ b.2)) := by
  induction l generalizing ins low with
  | nil => rfl
  | cons x t ih =>
    obtain ⟨fl, e⟩ := x
    cases fl <;> cases ins <;> simp [Slab.bandsG, ih]
/-- a band lies between two layers where the keeping turns -/
theorem bandsG_mem {α : Type} {G : α → Prop} : ∀ (l : List (Bool × α)) (ins : Bool) (low : α), (ins = true → G low) → (∀ A x B, l = A ++ x :: B → x.1 ≠ Slab.lastF ins A → G x.2) → ∀ b ∈ Slab.bandsG ins low l, G b.1 ∧ G b.2
  | [], _, _, _, _, b, hb => by simp [Slab.bandsG] at hb
  | (fl, e) :: t, ins, low, hl, hG, b, hb => by
    have hrec : ∀ (i : Bool) (lo : α), i = fl → (i = true → G lo) → ∀ b ∈ Slab.bandsG i lo t, G b.1 ∧ G b.2 := fun i lo hi h => bandsG_mem t i lo h (fun A x B e1 e2 => hG ((fl, e) :: A) x B (by rw [e1]; rfl) (by subst hi; exact e2))
    have he : fl ≠ ins → G e := fun h => hG [] (fl, e) t rfl h
    cases fl <;> cases ins
    · simp [Slab.bandsG] at hb
      exact hrec false low rfl (by simp) b hb
    · simp [Slab.bandsG] at hb
      rcases hb with rfl | hb
      · exact ⟨hl rfl, he (by simp)⟩
      · exact hrec false low rfl (by simp) b hb
    · simp [Slab.bandsG] at hb
      exact hrec true e rfl (fun _ => he (by simp)) b hb
    · simp [Slab.bandsG] at hb
      exact hrec true low rfl hl b hb

theorem spAt_mem {E : List Ed} {f t h : Fc} {n : Nat} : n ∈ spAt E f t h ↔ n < E.length ∧ upr (gd E n) = false ∧ hgt (gd E n) (mdn f t) = h ∧ spn (gd E n) f t = true := by
  unfold spAt numsAt
  simp only [List.mem_filter, List.mem_range, Bool.and_eq_true, Bool.not_eq_true', beq_iff_eq]
  constructor
  · rintro ⟨⟨a, b, c⟩, d⟩; exact ⟨a, b, c, d⟩
  · rintro ⟨a, b, c, d⟩; exact ⟨⟨a, b, c⟩, d⟩
theorem gd_mem {E : List Ed} {n : Nat} (h : n < E.length) : gd E n ∈ E := by
  unfold gd; simp [h]

/-- numbers by their heights, each once -/
theorem countP_flat (L : List Nat) (p q : Nat → Bool) (φ : Nat → Fc) : ∀ (A : List Fc), A.Nodup → (A.flatMap (fun h => L.filter (fun n => p n && φ n == h))).countP q = L.countP (fun n => (p n && decide (φ n ∈ A)) && q n)
  | [], _ => by simp
  | h :: r, hd => by
    rw [List.nodup_cons] at hd
    rw [List.flatMap_cons, List.countP_append, countP_flat L p q φ r hd.2, List.countP_filter]
    clear countP_flat
    induction L with
    | nil => simp
    | cons a L ih =>
      simp only [List.countP_cons]
      have : ((if (q a && (p a && φ a == h)) = true then 1 else 0) + (if ((p a && decide (φ a ∈ r)) && q a) = true then 1 else 0) : Nat) = if ((p a && decide (φ a ∈ h :: r)) && q a) = true then 1 else 0 := by
        by_cases e : φ a = h
        · have : φ a ∉ r := by rw [e]; exact hd.1
          cases p a <;> cases q a <;> simp [e, hd.1]
        · cases p a <;> cases q a <;> simp [e]
      omega

end Go.Proofs.YtkjlkbgdkdcboaaGreatDoor.Acre

namespace Go.Proofs.YtkjlkbgdkdcboaaGreatDoor.Acre

/-- the bands of a slab, by heights -/
def bandsH (E : List Ed) (k : Nat) (op : Int) (f t : Fc) : List (Fc × Fc) := Slab.bandsG false (0, 1) (flagsL (insAt E k op f t) [] (hts E (mdn f t)))
/-- the bands of a slab -/
def bandsP (E : List Ed) (k : Nat) (op : Int) (f t : Fc) : List (Ed × Ed) := (bandsH E k op f t).map (fun b => (edgeAt E f t b.1, edgeAt E f t b.2))

theorem opK_ff (op : Int) : opK op false false = false := by unfold opK; split <;> (try split) <;> (try split) <;> rfl
theorem ins_nil (E : List Ed) (k : Nat) (op : Int) (f t : Fc) : insAt E k op f t [] = false := by
  unfold insAt keepsB cntB
  simp [opK_ff]
/-- a bare layer turns nothing -/
theorem ins_bare (E : List Ed) (k : Nat) (op : Int) (f t : Fc) (A : List Fc) (h : Fc) (hb : spAt E f t h = []) : insAt E k op f t (A ++ [h]) = insAt E k op f t A := by
  unfold insAt cntB
  simp [hb]
theorem ins_bares (E : List Ed) (k : Nat) (op : Int) (f t : Fc) (A : List Fc) : ∀ (M : List Fc), (∀ h ∈ M, spAt E f t h = []) → insAt E k op f t (A ++ M) = insAt E k op f t A := by
  intro M hM
  unfold insAt cntB
  have : (A ++ M).flatMap (spAt E f t) = A.flatMap (spAt E f t) := by
    rw [List.flatMap_append]
    have : M.flatMap (spAt E f t) = [] := by
      rw [List.flatMap_eq_nil_iff]; exact hM
    rw [this, List.append_nil]
  rw [this]

theorem nodup_of_lt {l : List Fc} (h : l.Pairwise Lt) : l.Nodup := by
  refine List.Pairwise.imp ?_ h
  intro a b hab e
  subst e
  exact Lt.irrefl _ hab

theorem mem_hts {E : List Ed} {x h : Fc} : h ∈ hts E x ↔ ∃ e ∈ E, upr e = false ∧ hgt e x = h := by
  unfold hts
  rw [mem_sortD]
  simp [and_assoc]
theorem hts_red {E : List Ed} {x : Fc} (hx : 0 < x.2) : ∀ z ∈ (E.filter (fun e => !upr e)).map (fun e => hgt e x), Red z := by
  intro z hz
  obtain ⟨e, he, rfl⟩ := List.mem_map.1 hz
  rw [List.mem_filter] at he
  exact hgt_red e x (by simpa using he.2) hx
theorem hts_sorted {E : List Ed} {x : Fc} (hx : 0 < x.2) : (hts E x).Pairwise Lt := sortD_sorted _ (hts_red hx)

/-- a line of that height -/
def rep (E : List Ed) (x h : Fc) : Ed := (E.find? (fun e => !upr e && hgt e x == h)).getD zed
theorem rep_spec {E : List Ed} {x h : Fc} (hm : h ∈ hts E x) : rep E x h ∈ E ∧ upr (rep E x h) = false ∧ hgt (rep E x h) x = h := by
  obtain ⟨e, he, hu, hh⟩ := mem_hts.1 hm
  unfold rep
  cases hf : E.find? (fun e => !upr e && hgt e x == h) with
  | none =>
    rw [List.find?_eq_none] at hf
    have := hf e he
    simp [hu, hh] at this
  | some e' =>
    have h1 := List.find?_some hf
    have h2 := List.mem_of_find?_eq_some hf
    simp at h1
    exact ⟨h2, h1.1, h1.2⟩

/-- a row in order falls into what is below, at, and above -/
theorem split3 {α : Type} (key : α → Rat) (Y : Rat) : ∀ (l : List α), l.Pairwise (fun a b => key a ≤ key b) →
    l = l.filter (fun a => decide (key a < Y)) ++ (l.filter (fun a => decide (key a = Y)) ++ l.filter (fun a => decide (Y < key a)))
  | [], _ => rfl
  | a :: r, h => by
    rw [List.pairwise_cons] at h
    have ih := split3 key Y r h.2
    by_cases e1 : key a < Y
    · have d1 : decide (key a < Y) = true := decide_eq_true e1
      have d2 : decide (key a = Y) = false := decide_eq_false (by grind)
      have d3 : decide (Y < key a) = false := decide_eq_false (by grind)
      simp only [List.filter_cons, d1, d2, d3, if_true, Bool.false_eq_true, if_false, List.cons_append]
      rw [← ih]
    · have d1 : decide (key a < Y) = false := decide_eq_false e1
      have h4 : r.filter (fun a => decide (key a < Y)) = [] := by
        rw [List.filter_eq_nil_iff]
        intro b hb
        have := h.1 b hb
        simp only [decide_eq_true_eq]
        grind
      rw [h4, List.nil_append] at ih
      by_cases e2 : key a = Y
      · have d2 : decide (key a = Y) = true := decide_eq_true e2
        have d3 : decide (Y < key a) = false := decide_eq_false (by grind)
        simp only [List.filter_cons, d1, d2, d3, if_true, Bool.false_eq_true, if_false, h4, List.nil_append, List.cons_append]
        rw [← ih]
      · have d2 : decide (key a = Y) = false := decide_eq_false e2
        have d3 : decide (Y < key a) = true := decide_eq_true (by grind)
        have h5 : r.filter (fun a => decide (key a = Y)) = [] := by
          rw [List.filter_eq_nil_iff]
          intro b hb
          have := h.1 b hb
          simp only [decide_eq_true_eq]
          grind
        rw [h5, List.nil_append] at ih
        simp only [List.filter_cons, d1, d2, d3, if_true, Bool.false_eq_true, if_false, h4, h5, List.nil_append]
        rw [← ih]

end Go.Proofs.YtkjlkbgdkdcboaaGreatDoor.Acre

namespace Go.Proofs.YtkjlkbgdkdcboaaGreatDoor.Acre

theorem flagsL_split {ins : List Fc → Bool} : ∀ (L done : List Fc) (A' : List (Bool × Fc)) (x : Bool × Fc) (B' : List (Bool × Fc)), flagsL ins done L = A' ++ x :: B' →
    ∃ A h B, L = A ++ h :: B ∧ x = (ins (done ++ A ++ [h]), h) ∧ A' = flagsL ins done A
  | [], done, A', x, B', e => by simp [flagsL] at e
  | a :: r, done, [], x, B', e => by
    simp only [flagsL, List.nil_append, List.cons.injEq] at e
    exact ⟨[], a, r, rfl, by rw [← e.1]; simp, rfl⟩
  | a :: r, done, y :: A', x, B', e => by
    simp only [flagsL, List.cons_append, List.cons.injEq] at e
    obtain ⟨A, h, B, h1, h2, h3⟩ := flagsL_split r _ A' x B' e.2
    exact ⟨a :: A, h, B, by rw [h1]; rfl, by rw [h2]; simp, by rw [h3, ← e.1]; rfl⟩

theorem spAt_eq (E : List Ed) (f t h : Fc) : spAt E f t h = (List.range E.length).filter (fun n => (!upr (gd E n) && spn (gd E n) f t) && hgt (gd E n) (mdn f t) == h) := by
  unfold spAt numsAt
  rw [List.filter_filter]
  congr 1
  funext n
  cases upr (gd E n) <;> cases spn (gd E n) f t <;> simp

theorem bands_good {E : List Ed} {k : Nat} {op : Int} {f t : Fc} : ∀ b ∈ bandsH E k op f t, (b.1 ∈ hts E (mdn f t) ∧ spAt E f t b.1 ≠ []) ∧ (b.2 ∈ hts E (mdn f t) ∧ spAt E f t b.2 ≠ []) := by
  unfold bandsH
  refine bandsG_mem (G := fun h => h ∈ hts E (mdn f t) ∧ spAt E f t h ≠ []) _ false _ (by simp) ?_
  intro A' x B' e hne
  obtain ⟨A, h, B, h1, rfl, rfl⟩ := flagsL_split _ _ _ _ _ e
  refine ⟨by rw [h1]; simp, fun hb => hne ?_⟩
  have hl := flagsL_last (insAt E k op f t) [] A
  rw [ins_nil] at hl
  rw [hl]
  simpa using ins_bare E k op f t A h hb

/-- the edge of a layer that is not bare -/
theorem edgeAt_spec {E : List Ed} {f t h : Fc} (hb : spAt E f t h ≠ []) : edgeAt E f t h ∈ E ∧ upr (edgeAt E f t h) = false ∧ hgt (edgeAt E f t h) (mdn f t) = h ∧ spn (edgeAt E f t h) f t = true := by
  unfold edgeAt
  cases hs : spAt E f t h with
  | nil => exact absurd hs hb
  | cons n r =>
    have hm : n ∈ spAt E f t h := by rw [hs]; simp
    obtain ⟨h1, h2, h3, h4⟩ := spAt_mem.1 hm
    exact ⟨gd_mem h1, h2, h3, h4⟩

/-- how many edges of a field are below the place -/
def bel (E : List Ed) (k : Nat) (X Y : Rat) (o : Bool) : Nat := (List.range E.length).countP (fun n => (inX (gd E n) X && decide (ly (gd E n) X < Y)) && (decide (k ≤ n) == o))

theorem slab_count {E : List Ed} {k : Nat} {op : Int} {f t : Fc} (G : Gap E f t) {X Y : Rat} (hX : v f ≤ X) (hX2 : X < v t) (hno : ∀ e ∈ E, inX e X = true → ly e X ≠ Y)
    (hev : ∀ o, (List.range E.length).countP (fun n => inX (gd E n) X && (decide (k ≤ n) == o)) % 2 = 0) :
    (bandsP E k op f t).countP (fun b => decide (ly b.1 X < Y) && decide (Y < ly b.2 X)) = if keepsB op (bel E k X Y false) (bel E k X Y true) = true then 1 else 0 := by
  obtain ⟨m0, m1, m2⟩ := G.mid
  obtain ⟨key, hkdef⟩ : ∃ key : Fc → Rat, key = fun h => ly (rep E (mdn f t) h) X := ⟨_, rfl⟩
  have hkey : ∀ e ∈ E, upr e = false → ly e X = key (hgt e (mdn f t)) := by
    intro e he hu
    have hm : hgt e (mdn f t) ∈ hts E (mdn f t) := mem_hts.2 ⟨e, he, hu, rfl⟩
    obtain ⟨r1, r2, r3⟩ := rep_spec hm
    rw [hkdef]
    exact G.same he r1 hu r2 r3.symm X
  have hpw : (hts E (mdn f t)).Pairwise (fun a b => key a ≤ key b) := by
    refine List.Pairwise.imp_of_mem ?_ (hts_sorted (E := E) m0)
    intro a b ha hb hab
    obtain ⟨a1, a2, a3⟩ := rep_spec ha
    obtain ⟨b1, b2, b3⟩ := rep_spec hb
    rw [hkdef]
    exact G.le a1 b1 a2 b2 (by rw [a3, b3]; exact hab) hX hX2
  have hnd := nodup_of_lt (hts_sorted (E := E) m0)
  -- how many are counted
  have hcnt : ∀ (A : List Fc), A.Nodup → ∀ o, cntB E k f t A o = (List.range E.length).countP (fun n => (inX (gd E n) X && decide (hgt (gd E n) (mdn f t) ∈ A)) && (decide (k ≤ n) == o)) := by
    intro A hA o
    unfold cntB
    have e1 : A.flatMap (spAt E f t) = A.flatMap (fun h => (List.range E.length).filter (fun n => (!upr (gd E n) && spn (gd E n) f t) && hgt (gd E n) (mdn f t) == h)) := by
      congr 1
      funext h
      exact spAt_eq E f t h
    rw [e1, countP_flat _ _ _ (fun n => hgt (gd E n) (mdn f t)) A hA]
    apply List.countP_congr
    intro n hn
    have hn' : gd E n ∈ E := gd_mem (List.mem_range.1 hn)
    rw [G.spans hn' hX hX2]
  have hlay : ∀ n ∈ List.range E.length, inX (gd E n) X = true → upr (gd E n) = false ∧ hgt (gd E n) (mdn f t) ∈ hts E (mdn f t) := by
    intro n hn hi
    have hn' : gd E n ∈ E := gd_mem (List.mem_range.1 hn)
    rw [← G.spans hn' hX hX2] at hi
    have hu : upr (gd E n) = false := by simp at hi; exact hi.1
    exact ⟨hu, mem_hts.2 ⟨_, hn', hu, rfl⟩⟩
  -- the three parts
  have hs3 := split3 key Y _ hpw
  obtain ⟨A, hA⟩ : ∃ A, (hts E (mdn f t)).filter (fun a => decide (key a < Y)) = A := ⟨_, rfl⟩
  obtain ⟨M, hM⟩ : ∃ M, (hts E (mdn f t)).filter (fun a => decide (key a = Y)) = M := ⟨_, rfl⟩
  obtain ⟨U, hU⟩ : ∃ U, (hts E (mdn f t)).filter (fun a => decide (Y < key a)) = U := ⟨_, rfl⟩
  rw [hA, hM, hU] at hs3
  have hAm : ∀ h, h ∈ A ↔ h ∈ hts E (mdn f t) ∧ key h < Y := fun h => by rw [← hA]; simp
  have hMm : ∀ h ∈ M, h ∈ hts E (mdn f t) ∧ key h = Y := fun h hh => by rw [← hM] at hh; simpa using hh
  have hUm : ∀ h ∈ U, Y < key h := fun h hh => by rw [← hU] at hh; simp at hh; exact hh.2
  have hAnd : A.Nodup := by rw [← hA]; exact hnd.filter _
  have hMb : ∀ h ∈ M, spAt E f t h = [] := by
    intro h hh
    obtain ⟨h1, h2⟩ := hMm h hh
    rw [List.eq_nil_iff_forall_not_mem]
    intro n hn
    obtain ⟨n1, n2, n3, n4⟩ := spAt_mem.1 hn
    have hn' : gd E n ∈ E := gd_mem n1
    have hi : inX (gd E n) X = true := by rw [← G.spans hn' hX hX2, n2, n4]; rfl
    exact hno _ hn' hi (by rw [hkey _ hn' n2, n3, h2])
  have hbel : ∀ o, cntB E k f t A o = bel E k X Y o := by
    intro o
    rw [hcnt A hAnd]
    unfold bel
    apply List.countP_congr
    intro n hn
    have hn' : gd E n ∈ E := gd_mem (List.mem_range.1 hn)
    cases hi : inX (gd E n) X
    · simp
    · obtain ⟨h1, h2⟩ := hlay n hn hi
      have : decide (hgt (gd E n) (mdn f t) ∈ A) = decide (ly (gd E n) X < Y) := by
        apply decide_eq_decide.2
        rw [hAm, hkey _ hn' h1]
        exact ⟨fun h => h.2, fun h => ⟨h2, h⟩⟩
      rw [this]
  have hall : insAt E k op f t (hts E (mdn f t)) = false := by
    unfold insAt keepsB
    have hz : ∀ o, cntB E k f t (hts E (mdn f t)) o % 2 = 0 := by
      intro o
      rw [hcnt _ hnd]
      have : (List.range E.length).countP (fun n => (inX (gd E n) X && decide (hgt (gd E n) (mdn f t) ∈ hts E (mdn f t))) && (decide (k ≤ n) == o)) = (List.range E.length).countP (fun n => inX (gd E n) X && (decide (k ≤ n) == o)) := by
        apply List.countP_congr
        intro n hn
        cases hi : inX (gd E n) X
        · simp
        · simp [(hlay n hn hi).2]
      rw [this]
      exact hev o
    rw [hz, hz]
    exact opK_ff op
  -- by heights
  have hH : (bandsH E k op f t).countP (fun b => decide (key b.1 < Y) && decide (Y < key b.2)) = if keepsB op (bel E k X Y false) (bel E k X Y true) = true then 1 else 0 := by
    unfold bandsH
    have hfl : flagsL (insAt E k op f t) [] (hts E (mdn f t)) = flagsL (insAt E k op f t) [] A ++ (flagsL (insAt E k op f t) A M ++ flagsL (insAt E k op f t) (A ++ M) U) := by
      rw [hs3, flagsL_append, flagsL_append]
      simp
    have hlast : ∀ L, Slab.lastF false (flagsL (insAt E k op f t) [] L) = insAt E k op f t L := fun L => by
      have := flagsL_last (insAt E k op f t) [] L
      rw [ins_nil] at this
      simpa using this
    have h1 := Slab.count_bands (fun h => decide (key h < Y)) (fun h => decide (Y < key h)) (flagsL (insAt E k op f t) [] A) (flagsL (insAt E k op f t) A M) (flagsL (insAt E k op f t) (A ++ M) U) (0, 1)
      (fun x hx => by
        have := ((hAm x.2).1 (flagsL_mem hx).1).2
        exact ⟨decide_eq_true this, decide_eq_false (by grind)⟩)
      (fun x hx => by
        obtain ⟨_, B, C, h2, h3⟩ := flagsL_mem hx
        rw [h3, hlast]
        exact ins_bares E k op f t A B (fun h hh => hMb h (by rw [h2]; simp [hh])))
      (fun x hx => by
        have := hUm x.2 (flagsL_mem hx).1
        exact ⟨decide_eq_false (by grind), decide_eq_true this⟩)
      (by rw [← hfl, hlast]; exact hall)
    rw [hfl, h1, hlast]
    unfold insAt
    rw [hbel, hbel]
  rw [← hH]
  unfold bandsP
  rw [List.countP_map]
  apply List.countP_congr
  intro b hb
  obtain ⟨⟨g1, g2⟩, ⟨g3, g4⟩⟩ := bands_good b hb
  obtain ⟨a1, a2, a3, _⟩ := edgeAt_spec g2
  obtain ⟨b1, b2, b3, _⟩ := edgeAt_spec g4
  simp only [Function.comp_apply]
  rw [hkey _ a1 a2, hkey _ b1 b2, a3, b3]

end Go.Proofs.YtkjlkbgdkdcboaaGreatDoor.Acre

