
set_option linter.unusedSimpArgs false
set_option linter.unusedVariables false

set_option linter.unusedSimpArgs false
set_option linter.unusedVariables false
namespace Go.Proofs.YtkjlkbgdkdcboaaGreatDoor.Acre
def sgn (n : Int) : Int := if n < 0 then -1 else if 0 < n then 1 else 0
theorem sgn_neg {n : Int} (h : n < 0) : sgn n = -1 := by unfold sgn; rw [if_pos h]
theorem sgn_pos {n : Int} (h : 0 < n) : sgn n = 1 := by unfold sgn; rw [if_neg (by omega), if_pos h]
theorem sgn_zero {n : Int} (h1 : ¬ n < 0) (h2 : ¬ 0 < n) : sgn n = 0 := by unfold sgn; rw [if_neg h1, if_neg h2]
theorem sgn_bd (n : Int) : -1 ≤ sgn n ∧ sgn n ≤ 1 := by unfold sgn; split <;> (try split) <;> omega
theorem mul_bd (a b A B : Int) (ha : -A ≤ a ∧ a ≤ A) (hb : -B ≤ b ∧ b ≤ B) : -(A * B) ≤ a * b ∧ a * b ≤ A * B := by
  have hB : 0 ≤ B := by omega
  have h1 : a * b ≤ a.natAbs * b.natAbs := by
    have := Int.le_natAbs (a := a * b); rw [Int.natAbs_mul] at this; simpa using this
  have h2 : -(a * b) ≤ a.natAbs * b.natAbs := by
    have := Int.le_natAbs (a := -(a * b)); rw [Int.natAbs_neg, Int.natAbs_mul] at this; simpa using this
  have h3 : (a.natAbs : Int) * b.natAbs ≤ A * B := Int.mul_le_mul (by omega) (by omega) (by omega) (by omega)
  omega
def btw (N D a b : Int) : Bool := decide ((a * D ≤ N ∧ N ≤ b * D) ∨ (b * D ≤ N ∧ N ≤ a * D))
theorem btw_prog (N D a b : Int) : decide (sgn (N - a * D) * sgn (N - b * D) ≤ 0) = btw N D a b := by
  unfold btw sgn
  generalize a * D = p
  generalize b * D = q
  rw [Bool.eq_iff_iff]
  simp only [decide_eq_true_eq]
  rcases Int.lt_trichotomy N p with h1 | h1 | h1 <;> rcases Int.lt_trichotomy N q with h2 | h2 | h2 <;>
    (repeat (first | rw [if_pos (show N - p < 0 by omega)] | rw [if_neg (show ¬ N - p < 0 by omega)] | rw [if_pos (show N - q < 0 by omega)] | rw [if_neg (show ¬ N - q < 0 by omega)] | rw [if_pos (show 0 < N - p by omega)] | rw [if_neg (show ¬ 0 < N - p by omega)] | rw [if_pos (show 0 < N - q by omega)] | rw [if_neg (show ¬ 0 < N - q by omega)])) <;> omega
def sd (x0 y0 x1 y1 xN xD yN yD : Int) : Int := sgn ((x1 - x0) * ((yN - y0 * yD) * xD) - (y1 - y0) * ((xN - x0 * xD) * yD))
def onE (x0 y0 x1 y1 xN xD yN yD : Int) : Bool := sd x0 y0 x1 y1 xN xD yN yD == 0 && (btw xN xD x0 x1 && btw yN yD y0 y1)
def g (n d : Int) : Int := (Int.gcd n d : Int)
def low (n d : Int) : Int × Int := (n.tdiv (g n d * sgn d), d.tdiv (g n d * sgn d))
theorem g_pos (n d : Int) (h : d ≠ 0) : 0 < g n d := by
  unfold g; have := Int.gcd_pos_of_ne_zero_right n h; omega
theorem low_neg (n d : Int) (h : d < 0) : low n d = ((-n).tdiv (g n d), (-d).tdiv (g n d)) := by
  unfold low sgn; simp only [h, if_true]
  rw [Int.mul_neg, Int.mul_one, Int.tdiv_neg, Int.tdiv_neg, Int.neg_tdiv, Int.neg_tdiv]
theorem low_pos (n d : Int) (h : 0 < d) : low n d = (n.tdiv (g n d), d.tdiv (g n d)) := by
  unfold low sgn; rw [if_neg (by omega), if_pos h, Int.mul_one]
theorem low_spec (n d : Int) (h : d ≠ 0) : 0 < (low n d).2 ∧ (low n d).1 * d = n * (low n d).2 := by
  have hg := g_pos n d h
  obtain ⟨a, ha⟩ : g n d ∣ n := Int.gcd_dvd_left n d
  obtain ⟨b, hb⟩ : g n d ∣ d := Int.gcd_dvd_right n d
  have q1 : n.tdiv (g n d) = a := by conv => lhs; arg 1; rw [ha]
                                     exact Int.mul_tdiv_cancel_left _ (by omega)
  have q2 : d.tdiv (g n d) = b := by conv => lhs; arg 1; rw [hb]
                                     exact Int.mul_tdiv_cancel_left _ (by omega)
  rcases Int.lt_or_lt_of_ne h with h' | h'
  · rw [low_neg n d h', Int.neg_tdiv, Int.neg_tdiv, q1, q2]
    constructor
    · have : b < 0 := by
        rcases Int.lt_or_le b 0 with c | c
        · exact c
        · have := Int.mul_nonneg (Int.le_of_lt hg) c; omega
      show 0 < -b; omega
    · show -a * d = n * -b
      generalize g n d = k at *; subst ha; subst hb; grind
  · rw [low_pos n d h', q1, q2]
    constructor
    · show 0 < b
      rcases Int.lt_or_le 0 b with c | c
      · exact c
      · have := Int.mul_nonneg (Int.le_of_lt hg) (show 0 ≤ -b by omega)
        rw [Int.mul_neg] at this; omega
    · show a * d = n * b
      generalize g n d = k at *; subst ha; subst hb; grind
def onGrid (p : Int × Int) : Bool := decide (-12 ≤ p.1 ∧ p.1 ≤ 12) && decide (-12 ≤ p.2 ∧ p.2 ≤ 12)
theorem tdiv_bd (n k : Int) : -(n.natAbs : Int) ≤ n.tdiv k ∧ n.tdiv k ≤ (n.natAbs : Int) := by
  have h : (n.tdiv k).natAbs ≤ n.natAbs := by rw [Int.natAbs_tdiv]; exact Nat.div_le_self _ _
  omega
theorem g_le (n d : Int) (h : d ≠ 0) : g n d ≤ d.natAbs := by
  unfold g
  have := Nat.le_of_dvd (by omega) (Int.gcd_dvd_natAbs_right n d)
  omega
theorem com_bd (n d : Int) (h : d ≠ 0) : (-(d.natAbs : Int) ≤ g n d * sgn d ∧ g n d * sgn d ≤ d.natAbs) ∧ g n d * sgn d ≠ 0 := by
  have h1 := g_le n d h
  have h2 := g_pos n d h
  rcases Int.lt_or_lt_of_ne h with h' | h'
  · rw [sgn_neg h', Int.mul_neg, Int.mul_one]; omega
  · rw [sgn_pos h', Int.mul_one]; omega
theorem low_bd (n d : Int) : (-(n.natAbs : Int) ≤ (low n d).1 ∧ (low n d).1 ≤ n.natAbs) ∧ (-(d.natAbs : Int) ≤ (low n d).2 ∧ (low n d).2 ≤ d.natAbs) :=
  ⟨tdiv_bd _ _, tdiv_bd _ _⟩
def share (a1 a2 c1 c2 d1 d2 : Int) : Int := (c1 - a1) * (d2 - c2) - (c2 - a2) * (d1 - c1)
def crossX (a1 a2 b1 c1 c2 d1 d2 t : Int) : Int × Int := low (a1 * t + share a1 a2 c1 c2 d1 d2 * (b1 - a1)) t
def crossY (a1 a2 b2 c1 c2 d1 d2 t : Int) : Int × Int := low (a2 * t + share a1 a2 c1 c2 d1 d2 * (b2 - a2)) t
end Go.Proofs.YtkjlkbgdkdcboaaGreatDoor.Acre
namespace Go.Proofs.YtkjlkbgdkdcboaaGreatDoor.Acre
abbrev Pt := Int × Int
def on2 (a b c d p : Pt) : Bool := onE a.1 a.2 b.1 b.2 p.1 1 p.2 1 && onE c.1 c.2 d.1 d.2 p.1 1 p.2 1
def endsOf (a b c d : Pt) : List Pt := [a, b, c, d].filter (on2 a b c d)
def tell (l : List Pt) : Int × (Int × Int) × (Int × Int) :=
  match l with
  | [] => (0, (0, 0), (0, 0))
  | p :: r => if r.all (fun q => q == p) then (1, (p.1, 1), (p.2, 1)) else (2, (0, 0), (0, 0))
structure Diff (l u : List Pt) : Prop where
  nodup : u.Nodup
  mem : ∀ p, p ∈ u ↔ p ∈ l
theorem Diff.nil : Diff [] [] := ⟨List.nodup_nil, fun _ => Iff.rfl⟩
theorem tell_none {l u : List Pt} (h : Diff l u) (hu : u.length = 0) : tell l = (0, (0, 0), (0, 0)) := by
  have : u = [] := List.length_eq_zero_iff.1 hu
  subst this
  cases l with
  | nil => rfl
  | cons p r => have := (h.mem p).2 (by simp); simp at this
theorem tell_one {l u : List Pt} (h : Diff l u) (hu : u.length = 1) {p : Pt} (hp : l.getLast? = some p) : tell l = (1, (p.1, 1), (p.2, 1)) := by
  obtain ⟨q, rfl⟩ := List.length_eq_one_iff.1 hu
  have hall : ∀ x ∈ l, x = q := fun x hx => by have := (h.mem x).2 hx; simpa using this
  have hpq : p = q := hall p (List.mem_of_getLast? hp)
  subst hpq
  cases l with
  | nil => simp at hp
  | cons a r =>
    have ha : a = p := hall a (by simp)
    subst ha
    unfold tell
    simp only
    rw [if_pos]
    rw [List.all_eq_true]
    intro x hx
    have := hall x (by simp [hx])
    simp [this]
theorem tell_more {l u : List Pt} (h : Diff l u) (h0 : u.length ≠ 0) (h1 : u.length ≠ 1) : tell l = (2, (0, 0), (0, 0)) := by
  match u, h with
  | [], _ => simp at h0
  | [_], _ => simp at h1
  | a :: b :: r, h =>
    have hab : a ≠ b := by have := h.nodup; simp at this; exact this.1.1
    have ha := (h.mem a).1 (by simp)
    have hb := (h.mem b).1 (by simp)
    match l with
    | [] => simp at ha
    | p :: t =>
      unfold tell
      simp only
      rw [if_neg]
      intro hall
      rw [List.all_eq_true] at hall
      have e : ∀ x ∈ p :: t, x = p := fun x hx => by
        rcases List.mem_cons.1 hx with k | k
        · exact k
        · simpa using hall x k
      exact hab ((e a ha).trans (e b hb).symm)
def turn (a b c d : Pt) : Int := (b.1 - a.1) * (d.2 - c.2) - (b.2 - a.2) * (d.1 - c.1)
end Go.Proofs.YtkjlkbgdkdcboaaGreatDoor.Acre
namespace Go.Proofs.YtkjlkbgdkdcboaaGreatDoor.Acre
end Go.Proofs.YtkjlkbgdkdcboaaGreatDoor.Acre
namespace Go.Proofs.YtkjlkbgdkdcboaaGreatDoor.Acre
abbrev Ed := Pt × Pt
def up (e : Ed) : Ed := if decide (e.2.2 < e.1.2) || (e.1.2 == e.2.2 && decide (e.2.1 < e.1.1)) then (e.2, e.1) else e
def near (f : Int × Int) : Bool := (decide (1 ≤ f.2) && decide (f.2 ≤ 1152)) && ((decide (-(13 * f.2) ≤ f.1) && decide (f.1 ≤ 13 * f.2)) && g f.1 f.2 == 1)
def ringOk (r : List Pt) : Bool := (decide (3 ≤ r.length) && decide (r.length ≤ 6)) && r.all onGrid
def fieldOk (f : List (List Pt)) : Bool := decide (f.length ≤ 2) && f.all ringOk
def edgesTo (r : List Pt) (k : Nat) : List Ed := (List.range k).map fun i => (r.getD i (0, 0), r.getD ((i + 1) % r.length) (0, 0))
def edgesOf (f : List (List Pt)) : List Ed := f.flatMap fun r => edgesTo r r.length
theorem edgesTo_succ (r : List Pt) (k : Nat) : edgesTo r (k + 1) = edgesTo r k ++ [(r.getD k (0, 0), r.getD ((k + 1) % r.length) (0, 0))] := by
  unfold edgesTo; rw [List.range_succ, List.map_append]; rfl
end Go.Proofs.YtkjlkbgdkdcboaaGreatDoor.Acre
namespace Go.Proofs.YtkjlkbgdkdcboaaGreatDoor.Acre
theorem sgn_abs (d : Int) (h : d ≠ 0) : (sgn d).natAbs = 1 := by
  unfold sgn; split
  · rfl
  · rw [if_pos (by omega)]; rfl
theorem low_cop (n d : Int) (h : d ≠ 0) : Nat.Coprime (low n d).1.natAbs (low n d).2.natAbs := by
  have hk : (g n d * sgn d).natAbs = Nat.gcd n.natAbs d.natAbs := by
    rw [Int.natAbs_mul, sgn_abs d h, Nat.mul_one]; rfl
  show Nat.Coprime (n.tdiv (g n d * sgn d)).natAbs (d.tdiv (g n d * sgn d)).natAbs
  rw [Int.natAbs_tdiv, Int.natAbs_tdiv, hk]
  have hp : 0 < Nat.gcd n.natAbs d.natAbs := Nat.gcd_pos_of_pos_right _ (by omega)
  exact Nat.coprime_div_gcd_div_gcd hp
theorem low_gcd (n d : Int) (h : d ≠ 0) : g (low n d).1 (low n d).2 = 1 := by
  have := low_cop n d h
  unfold g Int.gcd
  rw [this]; rfl
theorem Diff.ex : ∀ l : List Pt, ∃ u, Diff l u
  | [] => ⟨[], Diff.nil⟩
  | p :: r => by
    obtain ⟨u, h⟩ := Diff.ex r
    by_cases hp : p ∈ u
    · exact ⟨u, h.nodup, fun q => by rw [List.mem_cons, ← h.mem]; exact ⟨Or.inr, fun k => k.elim (fun e => e ▸ hp) id⟩⟩
    · exact ⟨p :: u, List.nodup_cons.2 ⟨hp, h.nodup⟩, fun q => by rw [List.mem_cons, List.mem_cons, h.mem]⟩
theorem tell_same {l l' : List Pt} (h : ∀ p, p ∈ l ↔ p ∈ l') : tell l = tell l' := by
  obtain ⟨u, hu⟩ := Diff.ex l
  have hu' : Diff l' u := ⟨hu.nodup, fun p => by rw [hu.mem, h]⟩
  by_cases h0 : u.length = 0
  · rw [tell_none hu h0, tell_none hu' h0]
  · by_cases h1 : u.length = 1
    · obtain ⟨q, rfl⟩ := List.length_eq_one_iff.1 h1
      have last : ∀ {m : List Pt}, Diff m [q] → m.getLast? = some q := fun {m} hm => by
        cases e : m.getLast? with
        | none =>
          rw [List.getLast?_eq_none_iff] at e
          have := (hm.mem q).1 (by simp)
          rw [e] at this; simp at this
        | some p =>
          have := (hm.mem p).2 (List.mem_of_getLast? e)
          simp at this; rw [this]
      rw [tell_one hu h1 (last hu), tell_one hu' h1 (last hu')]
    · rw [tell_more hu h0 h1, tell_more hu' h0 h1]
theorem ends_swap (a b c d : Pt) : tell (endsOf c d a b) = tell (endsOf a b c d) := by
  apply tell_same
  intro p
  unfold endsOf
  rw [List.mem_filter, List.mem_filter]
  unfold on2
  rw [Bool.and_comm]
  simp only [List.mem_cons, List.not_mem_nil, or_false]
  constructor <;> rintro ⟨h, k⟩ <;> exact ⟨by rcases h with h | h | h | h <;> simp [h], k⟩
end Go.Proofs.YtkjlkbgdkdcboaaGreatDoor.Acre
namespace Go.Proofs.YtkjlkbgdkdcboaaGreatDoor.Acre
theorem sgn_lt (n : Int) : sgn n < 0 ↔ n < 0 := by unfold sgn; split <;> (try split) <;> omega
def par (l : List Bool) : Bool := l.foldr (fun a b => a ^^ b) false
theorem ring_of {R : List (List Pt)} (h : fieldOk R = true) : ∀ r ∈ R, ringOk r = true := by
  unfold fieldOk at h
  simp only [Bool.and_eq_true, List.all_eq_true] at h
  exact h.2
end Go.Proofs.YtkjlkbgdkdcboaaGreatDoor.Acre
namespace Go.Proofs.YtkjlkbgdkdcboaaGreatDoor.Slab
def bandsG {α : Type} : Bool → α → List (Bool × α) → List (α × α)
  | _, _, [] => []
  | ins, low, (fl, e) :: t =>
    if fl && !ins then bandsG true e t
    else if !fl && ins then (low, e) :: bandsG false low t
    else bandsG fl low t
def lastF {α : Type} : Bool → List (Bool × α) → Bool
  | ins, [] => ins
  | _, (fl, _) :: t => lastF fl t
theorem lt_or_eq {a b : Rat} (h : a ≤ b) : a < b ∨ a = b := by grind
theorem affine_order {p q r s f t m x : Rat} (hno : ∀ z, f < z → z < t → p + q * z = r + s * z → q = s ∧ p = r) (hm : f < m) (hm2 : m < t) (h : p + q * m < r + s * m) (hx : f ≤ x) (hx2 : x < t) :
    p + q * x ≤ r + s * x ∧ (f < x → p + q * x < r + s * x) := by
  have key : ¬ r + s * x < p + q * x := by
    intro hlt
    -- a root between x and m
    obtain ⟨dx, hdx⟩ : ∃ dx, dx = (p + q * x) - (r + s * x) := ⟨_, rfl⟩
    obtain ⟨dm, hdm⟩ : ∃ dm, dm = (r + s * m) - (p + q * m) := ⟨_, rfl⟩
    have h1 : 0 < dx := by grind
    have h2 : 0 < dm := by grind
    obtain ⟨l, hl⟩ : ∃ l, l = dx / (dx + dm) := ⟨_, rfl⟩
    have h3 : l * (dx + dm) = dx := by rw [hl]; exact Rat.div_mul_cancel (by grind)
    have hl0 : 0 < l := by
      rcases Rat.le_total (a := l) (b := 0) with hle | hle
      · have := Rat.mul_nonneg (a := -l) (b := dx + dm) (by grind) (by grind)
        grind
      · rcases (lt_or_eq hle) with e | e
        · exact e
        · rw [← e] at h3; grind
    have hl1 : l < 1 := by
      rcases Rat.le_total (a := 1) (b := l) with hle | hle
      · have := Rat.mul_nonneg (a := l - 1) (b := dx + dm) (by grind) (by grind)
        grind
      · rcases (lt_or_eq hle) with e | e
        · exact e
        · rw [e] at h3; grind
    obtain ⟨z, hz⟩ : ∃ z, z = x + l * (m - x) := ⟨_, rfl⟩
    have hd : p + q * z = r + s * z := by
      rw [hz]
      grind
    have hzf : f < z ∧ z < t := by
      rcases Rat.le_total (a := x) (b := m) with hxm | hxm
      · have b1 := Rat.mul_nonneg (a := 1 - l) (b := m - x) (by grind) (by grind)
        rcases (lt_or_eq hxm) with e | e
        · have b2 := Rat.mul_pos (a := l) (b := m - x) hl0 (by grind)
          grind
        · grind
      · have b1 := Rat.mul_nonneg (a := 1 - l) (b := x - m) (by grind) (by grind)
        have b2 := Rat.mul_nonneg (a := l) (b := x - m) (by grind) (by grind)
        grind
    obtain ⟨e1, e2⟩ := hno z hzf.1 hzf.2 hd
    subst e1; subst e2
    grind
  refine ⟨by grind, fun hfx => ?_⟩
  rcases lt_or_eq (show p + q * x ≤ r + s * x by grind) with e | e
  · exact e
  · obtain ⟨e1, e2⟩ := hno x hfx hx2 e
    subst e1; subst e2
    grind
end Go.Proofs.YtkjlkbgdkdcboaaGreatDoor.Slab
namespace Go.Proofs.YtkjlkbgdkdcboaaGreatDoor.Acre
abbrev Fc := Int × Int
def Red (f : Fc) : Prop := 0 < f.2 ∧ g f.1 f.2 = 1
def ordF (f h : Fc) : Int := sgn (f.1 * h.2 - h.1 * f.2)
abbrev Lt (f h : Fc) : Prop := f.1 * h.2 < h.1 * f.2
theorem mul_lt_of {a b k : Int} (hk : 0 < k) : a * k < b * k ↔ a < b := by
  constructor
  · intro h
    exact Int.lt_of_mul_lt_mul_right h (by omega)
  · intro h
    exact Int.mul_lt_mul_of_pos_right h hk
theorem Lt.trans {a b c : Fc} (ha : 0 < a.2) (hb : 0 < b.2) (hc : 0 < c.2) (h : Lt a b) (k : Lt b c) : Lt a c := by
  unfold Lt at *
  have h1 := (mul_lt_of hc).2 h
  have h2 := (mul_lt_of ha).2 k
  apply (mul_lt_of hb).1
  grind
theorem Lt.irrefl (a : Fc) : ¬ Lt a a := by unfold Lt; omega
theorem Lt.asymm {a b : Fc} (h : Lt a b) : ¬ Lt b a := by unfold Lt at *; omega
theorem cop_of {n d : Int} (h : g n d = 1) : Nat.Coprime n.natAbs d.natAbs := by
  unfold g Int.gcd at h
  exact_mod_cast h
theorem Red.eq {f h : Fc} (hf : Red f) (hh : Red h) (e : f.1 * h.2 = h.1 * f.2) : f = h := by
  obtain ⟨n, d⟩ := f
  obtain ⟨m, c⟩ := h
  obtain ⟨h1, h2⟩ := hf
  obtain ⟨h3, h4⟩ := hh
  dsimp only at *
  have c1 := cop_of h2
  have c2 := cop_of h4
  have e' : n.natAbs * c.natAbs = m.natAbs * d.natAbs := by
    rw [← Int.natAbs_mul, ← Int.natAbs_mul, e]
  have d1 : d.natAbs ∣ c.natAbs := c1.symm.dvd_of_dvd_mul_left ⟨m.natAbs, by rw [e']; exact Nat.mul_comm _ _⟩
  have d2 : c.natAbs ∣ d.natAbs := c2.symm.dvd_of_dvd_mul_left ⟨n.natAbs, by rw [← e']; exact Nat.mul_comm _ _⟩
  have hdc : d = c := by have := Nat.dvd_antisymm d1 d2; omega
  subst hdc
  have hnm : n = m := by
    have := Int.mul_eq_mul_right_iff (show d ≠ 0 by omega) |>.1 e
    exact this
  rw [hnm]
theorem Lt.total {a b : Fc} (ha : Red a) (hb : Red b) (h : a ≠ b) : Lt a b ∨ Lt b a := by
  unfold Lt
  by_cases e : a.1 * b.2 = b.1 * a.2
  · exact absurd (ha.eq hb e) h
  · omega
def insF (x : Fc) : List Fc → List Fc
  | [] => [x]
  | y :: t => if x = y then y :: t else if Lt x y then x :: y :: t else y :: insF x t
def sortD (l : List Fc) : List Fc := l.foldr insF []
theorem mem_insF (x z : Fc) (l : List Fc) : z ∈ insF x l ↔ z = x ∨ z ∈ l := by
  induction l with
  | nil => simp [insF]
  | cons y t ih =>
    unfold insF
    split
    · rename_i h; subst h; simp
    · split
      · simp
      · simp only [List.mem_cons, ih]
        constructor
        · rintro (h | h | h) <;> simp [h]
        · rintro (h | h | h) <;> simp [h]
theorem mem_sortD (z : Fc) (l : List Fc) : z ∈ sortD l ↔ z ∈ l := by
  unfold sortD
  induction l with
  | nil => simp
  | cons y t ih => simp [mem_insF, ih]
theorem insF_sorted (x : Fc) (l : List Fc) (hx : Red x) (hl : ∀ z ∈ l, Red z) (h : l.Pairwise Lt) : (insF x l).Pairwise Lt := by
  induction l with
  | nil => simp [insF]
  | cons y t ih =>
    rw [List.pairwise_cons] at h
    have hy := hl y (by simp)
    have ht : ∀ z ∈ t, Red z := fun z hz => hl z (by simp [hz])
    unfold insF
    split
    · exact List.pairwise_cons.2 h
    · rename_i hne
      split
      · rename_i hlt
        refine List.pairwise_cons.2 ⟨fun z hz => ?_, List.pairwise_cons.2 h⟩
        rcases List.mem_cons.1 hz with rfl | hz
        · exact hlt
        · exact hlt.trans hx.1 hy.1 (ht z hz).1 (h.1 z hz)
      · rename_i hlt
        refine List.pairwise_cons.2 ⟨fun z hz => ?_, ih ht h.2⟩
        rcases (mem_insF x z t).1 hz with rfl | hz
        · exact (Lt.total hx hy hne).resolve_left hlt
        · exact h.1 z hz
theorem sortD_sorted (l : List Fc) (hl : ∀ z ∈ l, Red z) : (sortD l).Pairwise Lt := by
  induction l with
  | nil => simp [sortD]
  | cons y t ih =>
    have ht : ∀ z ∈ t, Red z := fun z hz => hl z (by simp [hz])
    show (insF y (sortD t)).Pairwise Lt
    exact insF_sorted y _ (hl y (by simp)) (fun z hz => ht z ((mem_sortD z t).1 hz)) (ih ht)
theorem sorted_one : ∀ (l m : List Fc), l.Pairwise Lt → m.Pairwise Lt → (∀ x, x ∈ l ↔ x ∈ m) → l = m
  | [], [], _, _, _ => rfl
  | [], b :: m, _, _, h => by have := (h b).2 (by simp); simp at this
  | a :: l, [], _, _, h => by have := (h a).1 (by simp); simp at this
  | a :: l, b :: m, hl, hm, h => by
    rw [List.pairwise_cons] at hl hm
    have hab : a = b := by
      rcases List.mem_cons.1 ((h a).1 (by simp)) with e | e
      · exact e
      · rcases List.mem_cons.1 ((h b).2 (by simp)) with e' | e'
        · exact e'.symm
        · exact absurd (hm.1 a e) (Lt.asymm (hl.1 b e'))
    subst hab
    have : l = m := sorted_one l m hl.2 hm.2 (fun x => by
      constructor
      · intro hx
        rcases List.mem_cons.1 ((h x).1 (by simp [hx])) with e | e
        · subst e; exact absurd (hl.1 x hx) (Lt.irrefl x)
        · exact e
      · intro hx
        rcases List.mem_cons.1 ((h x).2 (by simp [hx])) with e | e
        · subst e; exact absurd (hm.1 x hx) (Lt.irrefl x)
        · exact e)
    rw [this]
theorem sortD_one {l m : List Fc} (hl : ∀ z ∈ l, Red z) (hm : m.Pairwise Lt) (h : ∀ x, x ∈ m ↔ x ∈ l) : m = sortD l :=
  sorted_one _ _ hm (sortD_sorted l hl) (fun x => by rw [mem_sortD]; exact h x)
theorem low_red (n d : Int) (h : d ≠ 0) : Red (low n d) := ⟨(low_spec n d h).1, low_gcd n d h⟩
theorem one_red (n : Int) : Red (n, 1) := ⟨by show (0 : Int) < 1; omega, by unfold g; simp⟩
end Go.Proofs.YtkjlkbgdkdcboaaGreatDoor.Acre
namespace Go.Proofs.YtkjlkbgdkdcboaaGreatDoor.Acre
def v (f : Fc) : Rat := (f.1 : Rat) / (f.2 : Rat)
def ly (e : Ed) (X : Rat) : Rat := (e.1.2 : Rat) + (X - (e.1.1 : Rat)) * (((e.2.2 - e.1.2 : Int) : Rat) / ((e.2.1 - e.1.1 : Int) : Rat))
def upr (e : Ed) : Bool := e.1.1 == e.2.1
def hgt (e : Ed) (x : Fc) : Fc := low (e.1.2 * (e.2.1 - e.1.1) * x.2 + (x.1 - e.1.1 * x.2) * (e.2.2 - e.1.2)) ((e.2.1 - e.1.1) * x.2)
def mdn (f h : Fc) : Fc := low (f.1 + h.1) (f.2 + h.2)
theorem rlt {a b k : Rat} (hk : 0 < k) : a * k < b * k ↔ a < b := by
  constructor
  · intro h
    rcases Rat.le_total (a := b) (b := a) with hle | hle
    · have := Rat.mul_nonneg (a := a - b) (b := k) (by grind) (by grind)
      grind
    · rcases Slab.lt_or_eq hle with e | e
      · exact e
      · subst e; grind
  · intro h
    have := Rat.mul_pos (a := b - a) (b := k) (by grind) hk
    grind
theorem cpos {n : Int} (h : 0 < n) : (0 : Rat) < (n : Rat) := by exact_mod_cast h
theorem cne {n : Int} (h : n ≠ 0) : (n : Rat) ≠ 0 := by exact_mod_cast h
theorem v_mul {f : Fc} (h : f.2 ≠ 0) : v f * (f.2 : Rat) = (f.1 : Rat) := by unfold v; exact Rat.div_mul_cancel (cne h)
theorem v_lt {f h : Fc} (hf : 0 < f.2) (hh : 0 < h.2) : v f < v h ↔ Lt f h := by
  have e1 := v_mul (f := f) (by omega)
  have e2 := v_mul (f := h) (by omega)
  have k1 := cpos hf
  have k2 := cpos hh
  have k := Rat.mul_pos k1 k2
  rw [← rlt k]
  have a1 : v f * ((f.2 : Rat) * (h.2 : Rat)) = ((f.1 * h.2 : Int) : Rat) := by rw [Rat.intCast_mul, ← e1]; grind
  have a2 : v h * ((f.2 : Rat) * (h.2 : Rat)) = ((h.1 * f.2 : Int) : Rat) := by rw [Rat.intCast_mul, ← e2]; grind
  rw [a1, a2]
  unfold Lt
  exact Rat.intCast_lt_intCast
theorem v_eq {f h : Fc} (hf : Red f) (hh : Red h) (e : v f = v h) : f = h := by
  apply hf.eq hh
  have e1 := v_mul (f := f) (by have := hf.1; omega)
  have e2 := v_mul (f := h) (by have := hh.1; omega)
  have : ((f.1 * h.2 : Int) : Rat) = ((h.1 * f.2 : Int) : Rat) := by rw [Rat.intCast_mul, Rat.intCast_mul, ← e1, ← e2, e]; grind
  exact_mod_cast this
theorem v_one (n : Int) : v (n, 1) = (n : Rat) := by have := v_mul (f := (n, 1)) (by simp); simpa using this
theorem hgt_red (e : Ed) (x : Fc) (h : upr e = false) (hx : 0 < x.2) : Red (hgt e x) := by
  unfold hgt
  apply low_red
  unfold upr at h
  simp at h
  exact Int.mul_ne_zero (by omega) (by omega)
end Go.Proofs.YtkjlkbgdkdcboaaGreatDoor.Acre
namespace Go.Proofs.YtkjlkbgdkdcboaaGreatDoor.Acre
def inX (e : Ed) (X : Rat) : Bool := decide (((e.1.1 : Rat) ≤ X ∧ X < (e.2.1 : Rat)) ∨ ((e.2.1 : Rat) ≤ X ∧ X < (e.1.1 : Rat)))
def spn (e : Ed) (f t : Fc) : Bool := btw f.1 f.2 e.1.1 e.2.1 && btw t.1 t.2 e.1.1 e.2.1
theorem le_v {a : Int} {f : Fc} (hf : 0 < f.2) : a * f.2 ≤ f.1 ↔ (a : Rat) ≤ v f := by
  have h := v_lt (f := f) (h := (a, 1)) hf (by show (0 : Int) < 1; omega)
  rw [v_one] at h
  unfold Lt at h
  simp only [Int.mul_one] at h
  constructor
  · intro h'
    rcases Rat.le_total (a := (a : Rat)) (b := v f) with e | e
    · exact e
    · rcases Slab.lt_or_eq e with e | e
      · have := h.1 e; omega
      · rw [e]; exact Rat.le_refl
  · intro h'
    rcases Int.lt_or_le f.1 (a * f.2) with e | e
    · have := h.2 e; grind
    · exact e
theorem v_le {a : Int} {f : Fc} (hf : 0 < f.2) : f.1 ≤ a * f.2 ↔ v f ≤ (a : Rat) := by
  have h := v_lt (f := (a, 1)) (h := f) (by show (0 : Int) < 1; omega) hf
  rw [v_one] at h
  unfold Lt at h
  simp only [Int.mul_one] at h
  constructor
  · intro h'
    rcases Rat.le_total (a := v f) (b := (a : Rat)) with e | e
    · exact e
    · rcases Slab.lt_or_eq e with e | e
      · have := h.1 e; omega
      · rw [e]; exact Rat.le_refl
  · intro h'
    rcases Int.lt_or_le (a * f.2) f.1 with e | e
    · have := h.2 e; grind
    · exact e
theorem btw_v {f : Fc} (hf : 0 < f.2) (a b : Int) : btw f.1 f.2 a b = true ↔ ((a : Rat) ≤ v f ∧ v f ≤ (b : Rat)) ∨ ((b : Rat) ≤ v f ∧ v f ≤ (a : Rat)) := by
  unfold btw
  rw [decide_eq_true_eq, le_v hf, le_v hf, v_le hf, v_le hf]
end Go.Proofs.YtkjlkbgdkdcboaaGreatDoor.Acre
namespace Go.Proofs.YtkjlkbgdkdcboaaGreatDoor.Acre
def zed : Ed := ((0, 0), (0, 0))
def gd (E : List Ed) (n : Nat) : Ed := E.getD n zed
def hts (E : List Ed) (x : Fc) : List Fc := sortD ((E.filter (fun e => !upr e)).map (fun e => hgt e x))
def numsAt (E : List Ed) (x h : Fc) : List Nat := (List.range E.length).filter (fun n => !upr (gd E n) && hgt (gd E n) x == h)
def spAt (E : List Ed) (f t h : Fc) : List Nat := (numsAt E (mdn f t) h).filter (fun n => spn (gd E n) f t)
def cntB (E : List Ed) (k : Nat) (f t : Fc) (A : List Fc) (o : Bool) : Nat := (A.flatMap (spAt E f t)).countP (fun n => decide (k ≤ n) == o)
def opK (op : Int) (a b : Bool) : Bool := if op = 0 then a && b else if op = 1 then a || b else if op = 2 then a && !b else a != b
def keepsB (op : Int) (a b : Nat) : Bool := opK op (a % 2 == 1) (b % 2 == 1)
def insAt (E : List Ed) (k : Nat) (op : Int) (f t : Fc) (A : List Fc) : Bool := keepsB op (cntB E k f t A false) (cntB E k f t A true)
def edgeAt (E : List Ed) (f t h : Fc) : Ed := match spAt E f t h with | [] => zed | n :: _ => gd E n
def flagsL (ins : List Fc → Bool) : List Fc → List Fc → List (Bool × Fc)
  | _, [] => []
  | done, h :: r => (ins (done ++ [h]), h) :: flagsL ins (done ++ [h]) r
theorem bandsG_any {α : Type} (low low' : α) (l : List (Bool × α)) : Slab.bandsG false low l = Slab.bandsG false low' l := by
  induction l generalizing low low' with
  | nil => rfl
  | cons x t ih =>
    obtain ⟨fl, e⟩ := x
    cases fl
    · simpa [Slab.bandsG] using ih low low'
    · simp [Slab.bandsG]
theorem bandsG_map {α β : Type} (φ : α → β) (ins : Bool) (low : α) (l : List (Bool × α)) : Slab.bandsG ins (φ low) (l.map (fun x => (x.1, φ x.2))) = (Slab.bandsG ins low l).map (fun b => (φ b.1, φ b.2)) := by
  induction l generalizing ins low with
  | nil => rfl
  | cons x t ih =>
    obtain ⟨fl, e⟩ := x
    cases fl <;> cases ins <;> simp [Slab.bandsG, ih]
theorem bandsG_mem {α : Type} {G : α → Prop} : ∀ (l : List (Bool × α)) (ins : Bool) (low : α), (ins = true → G low) → (∀ A x B, l = A ++ x :: B → x.1 ≠ Slab.lastF ins A → G x.2) → ∀ b ∈ Slab.bandsG ins low l, G b.1 ∧ G b.2
  | [], _, _, _, _, b, hb => by simp [Slab.bandsG] at hb
  | (fl, e) :: t, ins, low, hl, hG, b, hb => by
    have hrec : ∀ (i : Bool) (lo : α), i = fl → (i = true → G lo) → ∀ b ∈ Slab.bandsG i lo t, G b.1 ∧ G b.2 := fun i lo hi h => bandsG_mem t i lo h (fun A x B e1 e2 => hG ((fl, e) :: A) x B (by rw [e1]; rfl) (by subst hi; exact e2))
    have he : fl ≠ ins → G e := fun h => hG [] (fl, e) t rfl h
    cases fl <;> cases ins
    · simp [Slab.bandsG] at hb
      exact hrec false low rfl (by simp) b hb
    · simp [Slab.bandsG] at hb
      rcases hb with rfl | hb
      · exact ⟨hl rfl, he (by simp)⟩
      · exact hrec false low rfl (by simp) b hb
    · simp [Slab.bandsG] at hb
      exact hrec true e rfl (fun _ => he (by simp)) b hb
    · simp [Slab.bandsG] at hb
      exact hrec true low rfl hl b hb
theorem gd_mem {E : List Ed} {n : Nat} (h : n < E.length) : gd E n ∈ E := by
  unfold gd; simp [h]
end Go.Proofs.YtkjlkbgdkdcboaaGreatDoor.Acre
namespace Go.Proofs.YtkjlkbgdkdcboaaGreatDoor.Acre
def bandsH (E : List Ed) (k : Nat) (op : Int) (f t : Fc) : List (Fc × Fc) := Slab.bandsG false (0, 1) (flagsL (insAt E k op f t) [] (hts E (mdn f t)))
def bandsP (E : List Ed) (k : Nat) (op : Int) (f t : Fc) : List (Ed × Ed) := (bandsH E k op f t).map (fun b => (edgeAt E f t b.1, edgeAt E f t b.2))
theorem nodup_of_lt {l : List Fc} (h : l.Pairwise Lt) : l.Nodup := by
  refine List.Pairwise.imp ?_ h
  intro a b hab e
  subst e
  exact Lt.irrefl _ hab
theorem mem_hts {E : List Ed} {x h : Fc} : h ∈ hts E x ↔ ∃ e ∈ E, upr e = false ∧ hgt e x = h := by
  unfold hts
  rw [mem_sortD]
  simp [and_assoc]
theorem hts_red {E : List Ed} {x : Fc} (hx : 0 < x.2) : ∀ z ∈ (E.filter (fun e => !upr e)).map (fun e => hgt e x), Red z := by
  intro z hz
  obtain ⟨e, he, rfl⟩ := List.mem_map.1 hz
  rw [List.mem_filter] at he
  exact hgt_red e x (by simpa using he.2) hx
theorem hts_sorted {E : List Ed} {x : Fc} (hx : 0 < x.2) : (hts E x).Pairwise Lt := sortD_sorted _ (hts_red hx)
end Go.Proofs.YtkjlkbgdkdcboaaGreatDoor.Acre
namespace Go.Proofs.YtkjlkbgdkdcboaaGreatDoor.Acre
theorem spAt_eq (E : List Ed) (f t h : Fc) : spAt E f t h = (List.range E.length).filter (fun n => (!upr (gd E n) && spn (gd E n) f t) && hgt (gd E n) (mdn f t) == h) := by
  unfold spAt numsAt
  rw [List.filter_filter]
  congr 1
  funext n
  cases upr (gd E n) <;> cases spn (gd E n) f t <;> simp
def bel (E : List Ed) (k : Nat) (X Y : Rat) (o : Bool) : Nat := (List.range E.length).countP (fun n => (inX (gd E n) X && decide (ly (gd E n) X < Y)) && (decide (k ≤ n) == o))
end Go.Proofs.YtkjlkbgdkdcboaaGreatDoor.Acre
