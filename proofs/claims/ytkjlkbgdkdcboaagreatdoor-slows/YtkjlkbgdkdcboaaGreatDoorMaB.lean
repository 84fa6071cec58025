import Derived.Test.YtkjlkbgdkdcboaaGreatDoorMaA

set_option linter.unusedSimpArgs false
set_option linter.unusedVariables false

set_option linter.unusedSimpArgs false
set_option linter.unusedVariables false

namespace Go.Proofs.YtkjlkbgdkdcboaaGreatDoor.Acre

/-- where two lines cross, if that is within the limits -/
def crossOf (e f : Ed) : Option Fc :=
  if turn e.1 e.2 f.1 f.2 = 0 then none
  else if btw (crossX e.1.1 e.1.2 e.2.1 f.1.1 f.1.2 f.2.1 f.2.2 (turn e.1 e.2 f.1 f.2)).1 (crossX e.1.1 e.1.2 e.2.1 f.1.1 f.1.2 f.2.1 f.2.2 (turn e.1 e.2 f.1 f.2)).2 (-12) 12 then
    some (crossX e.1.1 e.1.2 e.2.1 f.1.1 f.1.2 f.2.1 f.2.2 (turn e.1 e.2 f.1 f.2))
  else none
/-- where edges begin, where two of their lines cross, and more -/
def cutI (E : List Ed) (i : Nat) : List Fc := ((gd E i).1.1, 1) :: (List.range i).filterMap (fun j => crossOf (gd E i) (gd E j))
def cutL (E : List Ed) (more : List Fc) : List Fc := more ++ (List.range E.length).flatMap (cutI E)
def cutsP (E : List Ed) (more : List Fc) : List Fc := sortD (cutL E more)

/-- the edges of fields: on the grid, and round and round -/
structure Fld (E : List Ed) : Prop where
  grid : ∀ e ∈ E, onGrid e.1 = true ∧ onGrid e.2 = true
  next : ∀ e ∈ E, ∃ e' ∈ E, e'.1 = e.2
/-- a fraction within the limits -/
structure Lim (x : Fc) : Prop where
  red : Red x
  lo : (-12 : Rat) ≤ v x
  hi : v x ≤ 12

theorem lim_int {n : Int} (h : -12 ≤ n ∧ n ≤ 12) : Lim (n, 1) := by
  refine ⟨one_red n, ?_, ?_⟩
  · rw [v_one]
    have : ((-12 : Int) : Rat) ≤ (n : Rat) := Rat.intCast_le_intCast.2 h.1
    exact this
  · rw [v_one]
    have : (n : Rat) ≤ ((12 : Int) : Rat) := Rat.intCast_le_intCast.2 h.2
    exact this
theorem grid_x {p : Pt} (h : onGrid p = true) : -12 ≤ p.1 ∧ p.1 ≤ 12 := by
  unfold onGrid at h; simp at h; omega
theorem crossOf_lim {e f : Ed} {x : Fc} (h : crossOf e f = some x) : Lim x := by
  unfold crossOf at h
  split at h
  · simp at h
  · rename_i ht
    split at h
    · rename_i hb
      simp only [Option.some.injEq] at h
      have hr : Red x := by rw [← h]; exact low_red _ _ ht
      rw [h, btw_v hr.1] at hb
      have c1 : ((-12 : Int) : Rat) = -12 := rfl
      have c2 : ((12 : Int) : Rat) = 12 := rfl
      rw [c1, c2] at hb
      exact ⟨hr, by grind, by grind⟩
    · simp at h
theorem cutL_lim {E : List Ed} {more : List Fc} (F : Fld E) (hm : ∀ x ∈ more, Lim x) : ∀ x ∈ cutL E more, Lim x := by
  intro x hx
  unfold cutL at hx
  rcases List.mem_append.1 hx with h | h
  · exact hm x h
  · obtain ⟨i, hi, hx⟩ := List.mem_flatMap.1 h
    unfold cutI at hx
    rcases List.mem_cons.1 hx with rfl | hx
    · exact lim_int (grid_x (F.grid _ (gd_mem (List.mem_range.1 hi))).1)
    · obtain ⟨j, _, hj⟩ := List.mem_filterMap.1 hx
      exact crossOf_lim hj
theorem cutsP_lim {E : List Ed} {more : List Fc} (F : Fld E) (hm : ∀ x ∈ more, Lim x) : ∀ x ∈ cutsP E more, Lim x := fun x hx => cutL_lim F hm x ((mem_sortD x _).1 hx)
theorem cutsP_sorted {E : List Ed} {more : List Fc} (F : Fld E) (hm : ∀ x ∈ more, Lim x) : (cutsP E more).Pairwise Lt := sortD_sorted _ (fun z hz => (cutL_lim F hm z hz).red)
theorem mem_gd {E : List Ed} {e : Ed} (h : e ∈ E) : ∃ i, i < E.length ∧ gd E i = e := by
  obtain ⟨i, hi, rfl⟩ := List.mem_iff_getElem.1 h
  exact ⟨i, hi, by unfold gd; simp [hi]⟩
theorem cuts_begin {E : List Ed} (more : List Fc) {e : Ed} (h : e ∈ E) : (e.1.1, 1) ∈ cutsP E more := by
  obtain ⟨i, hi, rfl⟩ := mem_gd h
  unfold cutsP cutL
  rw [mem_sortD]
  refine List.mem_append.2 (.inr (List.mem_flatMap.2 ⟨i, List.mem_range.2 hi, ?_⟩))
  unfold cutI
  simp
theorem cuts_more {E : List Ed} {more : List Fc} {x : Fc} (h : x ∈ more) : x ∈ cutsP E more := by
  unfold cutsP cutL
  rw [mem_sortD]
  exact List.mem_append.2 (.inl h)

/-- of two that follow one another nothing is between -/
theorem consec {pre post : List Fc} {f t z : Fc} (hs : (pre ++ f :: t :: post).Pairwise Lt) (hl : ∀ x ∈ pre ++ f :: t :: post, 0 < x.2) (hz : z ∈ pre ++ f :: t :: post) : v z ≤ v f ∨ v t ≤ v z := by
  have hf : f ∈ pre ++ f :: t :: post := by simp
  have ht : t ∈ pre ++ f :: t :: post := by simp
  rw [List.pairwise_append] at hs
  obtain ⟨_, h2, h3⟩ := hs
  rw [List.pairwise_cons, List.pairwise_cons] at h2
  rcases List.mem_append.1 hz with h | h
  · have := (v_lt (hl z hz) (hl f hf)).2 (h3 z h f (by simp))
    left; grind
  · rcases List.mem_cons.1 h with rfl | h
    · left; exact Rat.le_refl
    · rcases List.mem_cons.1 h with rfl | h
      · right; exact Rat.le_refl
      · have := (v_lt (hl t ht) (hl z hz)).2 (h2.2.1 z h)
        right; grind

theorem cross_x {e e' : Ed} (hu : upr e = false) (hu' : upr e' = false) (ht : turn e.1 e.2 e'.1 e'.2 ≠ 0) {z : Rat} (h : ly e z = ly e' z) : v (crossX e.1.1 e.1.2 e.2.1 e'.1.1 e'.1.2 e'.2.1 e'.2.2 (turn e.1 e.2 e'.1 e'.2)) = z := by
  have h1 := v_low (e.1.1 * turn e.1 e.2 e'.1 e'.2 + share e.1.1 e.1.2 e'.1.1 e'.1.2 e'.2.1 e'.2.2 * (e.2.1 - e.1.1)) _ ht
  have a1 := ly_mul e z hu
  have a2 := ly_mul e' z hu'
  have hk := cne ht
  obtain ⟨X, hX⟩ : ∃ X, X = v (crossX e.1.1 e.1.2 e.2.1 e'.1.1 e'.1.2 e'.2.1 e'.2.2 (turn e.1 e.2 e'.1 e'.2)) := ⟨_, rfl⟩
  have h1' : X * (turn e.1 e.2 e'.1 e'.2 : Rat) = ((e.1.1 * turn e.1 e.2 e'.1 e'.2 + share e.1.1 e.1.2 e'.1.1 e'.1.2 e'.2.1 e'.2.2 * (e.2.1 - e.1.1) : Int) : Rat) := by rw [hX]; exact h1
  rw [← hX]
  have : (X - z) * (turn e.1 e.2 e'.1 e'.2 : Rat) = 0 := by
    have e1 : (X - z) * (turn e.1 e.2 e'.1 e'.2 : Rat) = X * (turn e.1 e.2 e'.1 e'.2 : Rat) - z * (turn e.1 e.2 e'.1 e'.2 : Rat) := by grind
    rw [e1, h1']
    rw [h] at a1
    unfold turn share
    simp only [Rat.intCast_mul, Rat.intCast_add, Rat.intCast_sub] at a1 a2 ⊢
    grind
  rcases Rat.mul_eq_zero.1 this with e | e
  · grind
  · exact absurd e hk
theorem turn_zero {e e' : Ed} (hu : upr e = false) (hu' : upr e' = false) (ht : turn e.1 e.2 e'.1 e'.2 = 0) {z : Rat} (h : ly e z = ly e' z) (z' : Rat) : ly e z' = ly e' z' := by
  have d1 : e.2.1 - e.1.1 ≠ 0 := by unfold upr at hu; simp at hu; omega
  have d2 : e'.2.1 - e'.1.1 ≠ 0 := by unfold upr at hu'; simp at hu'; omega
  have hs : slp e = slp e' := by
    have s1 := Rat.div_mul_cancel (a := ((e.2.2 - e.1.2 : Int) : Rat)) (cne d1)
    have s2 := Rat.div_mul_cancel (a := ((e'.2.2 - e'.1.2 : Int) : Rat)) (cne d2)
    have hk := cne (Int.mul_ne_zero d1 d2)
    have ht' : ((turn e.1 e.2 e'.1 e'.2 : Int) : Rat) = 0 := by rw [ht]; rfl
    unfold turn at ht'
    have : (slp e - slp e') * (((e.2.1 - e.1.1) * (e'.2.1 - e'.1.1) : Int) : Rat) = 0 := by
      unfold slp
      simp only [Rat.intCast_mul, Rat.intCast_sub] at *
      grind
    rcases Rat.mul_eq_zero.1 this with e | e
    · grind
    · exact absurd e hk
  rw [ly_aff, ly_aff] at h ⊢
  rw [hs] at h ⊢
  grind

/-- between two cuts that follow one another there is nothing to see -/
theorem gap_of {E : List Ed} {more : List Fc} (F : Fld E) (hm : ∀ x ∈ more, Lim x) {pre post : List Fc} {f t : Fc} (hc : cutsP E more = pre ++ f :: t :: post) : Gap E f t := by
  have hlim := cutsP_lim F hm
  have hsort := cutsP_sorted F hm
  have hcon : ∀ z ∈ cutsP E more, v z ≤ v f ∨ v t ≤ v z := fun z hz => by
    rw [hc] at hsort hz
    exact consec hsort (fun x hx => (hlim x (by rw [hc]; exact hx)).red.1) hz
  have hf : f ∈ cutsP E more := by rw [hc]; simp
  have ht : t ∈ cutsP E more := by rw [hc]; simp
  have lf := hlim f hf
  have lt := hlim t ht
  have hlt : Lt f t := by
    rw [hc, List.pairwise_append] at hsort
    obtain ⟨_, h2, _⟩ := hsort
    rw [List.pairwise_cons] at h2
    exact h2.1 t (by simp)
  have key : ∀ e ∈ E, ∀ e' ∈ E, ∀ x, crossOf e e' = some x → crossOf e' e = some x → v x ≤ v f ∨ v t ≤ v x := by
    intro e he e' he' x hx hx'
    obtain ⟨i, hi, rfl⟩ := mem_gd he
    obtain ⟨j, hj, rfl⟩ := mem_gd he'
    refine hcon x ?_
    unfold cutsP cutL
    rw [mem_sortD]
    rcases Nat.lt_trichotomy i j with h | h | h
    · exact List.mem_append.2 (.inr (List.mem_flatMap.2 ⟨j, List.mem_range.2 hj, List.mem_cons_of_mem _ (List.mem_filterMap.2 ⟨i, List.mem_range.2 h, hx'⟩)⟩))
    · subst h
      exfalso
      unfold crossOf at hx
      rw [if_pos (by unfold turn; grind)] at hx
      simp at hx
    · exact List.mem_append.2 (.inr (List.mem_flatMap.2 ⟨i, List.mem_range.2 hi, List.mem_cons_of_mem _ (List.mem_filterMap.2 ⟨j, List.mem_range.2 h, hx⟩)⟩))
  refine ⟨lf.red, lt.red, hlt, ?_, ?_⟩
  · intro e he
    refine ⟨?_, ?_⟩
    · have := hcon _ (cuts_begin more he)
      rwa [v_one] at this
    · obtain ⟨e', he', h'⟩ := F.next e he
      have := hcon _ (cuts_begin more he')
      rw [v_one, h'] at this
      exact this
  · intro e he e' he' hu hu' z z1 z2 hz z'
    by_cases h0 : turn e.1 e.2 e'.1 e'.2 = 0
    · exact turn_zero hu hu' h0 hz z'
    · exfalso
      have hx := cross_x hu hu' h0 hz
      have hb : ∀ x : Fc, Red x → v x = z → btw x.1 x.2 (-12) 12 = true := by
        intro x hr hv
        rw [btw_v hr.1]
        have c1 : ((-12 : Int) : Rat) = -12 := rfl
        have c2 : ((12 : Int) : Rat) = 12 := rfl
        rw [c1, c2, hv]
        have := lf.lo
        have := lt.hi
        left
        constructor <;> grind
      have hr : Red (crossX e.1.1 e.1.2 e.2.1 e'.1.1 e'.1.2 e'.2.1 e'.2.2 (turn e.1 e.2 e'.1 e'.2)) := low_red _ _ h0
      have h0' : turn e'.1 e'.2 e.1 e.2 ≠ 0 := by rw [turn_swap]; omega
      have hsw := crossX_swap e.1 e.2 e'.1 e'.2 h0
      have c1 : crossOf e e' = some (crossX e.1.1 e.1.2 e.2.1 e'.1.1 e'.1.2 e'.2.1 e'.2.2 (turn e.1 e.2 e'.1 e'.2)) := by
        unfold crossOf
        rw [if_neg h0, if_pos (hb _ hr hx)]
      have c2 : crossOf e' e = some (crossX e.1.1 e.1.2 e.2.1 e'.1.1 e'.1.2 e'.2.1 e'.2.2 (turn e.1 e.2 e'.1 e'.2)) := by
        unfold crossOf
        rw [if_neg h0', hsw, if_pos (hb _ hr hx)]
      have := key e he e' he' _ c1 c2
      rw [hx] at this
      grind

end Go.Proofs.YtkjlkbgdkdcboaaGreatDoor.Acre

namespace Go.Proofs.YtkjlkbgdkdcboaaGreatDoor.Acre

/-- a piece: from, to, and the two edges -/
abbrev Pc := (Fc × Fc) × (Ed × Ed)
/-- the last piece with that band -/
def lastI (b : Ed × Ed) : List Pc → Option Nat
  | [] => none
  | p :: r => match lastI b r with
    | some i => some (i + 1)
    | none => if p.2 = b then some 0 else none
def zpc : Pc := (((0, 0), (0, 0)), (zed, zed))
def pcAt (ps : List Pc) (i : Nat) : Pc := ps.getD i zpc
/-- a piece goes on, or another begins -/
def joinB (f t : Fc) (ps : List Pc) (b : Ed × Ed) : List Pc :=
  match lastI b ps with
  | some i => if (pcAt ps i).1.2 = f then ps.set i (((pcAt ps i).1.1, t), b) else ps ++ [((f, t), b)]
  | none => ps ++ [((f, t), b)]

theorem lastI_snoc_same (b : Ed × Ed) (ps : List Pc) (p : Pc) (h : p.2 = b) : lastI b (ps ++ [p]) = some ps.length := by
  induction ps with
  | nil => simp [lastI, h]
  | cons a r ih => simp [lastI, ih]
theorem lastI_snoc_other (b : Ed × Ed) (ps : List Pc) (p : Pc) (h : p.2 ≠ b) : lastI b (ps ++ [p]) = lastI b ps := by
  induction ps with
  | nil => simp [lastI, h]
  | cons a r ih => simp [lastI, ih]
theorem lastI_spec {b : Ed × Ed} : ∀ {ps : List Pc} {i : Nat}, lastI b ps = some i → i < ps.length ∧ (pcAt ps i).2 = b
  | [], i, h => by simp [lastI] at h
  | p :: r, i, h => by
    unfold lastI at h
    cases hr : lastI b r with
    | some j =>
      rw [hr] at h
      simp only [Option.some.injEq] at h
      subst h
      obtain ⟨h1, h2⟩ := lastI_spec hr
      exact ⟨by simpa using h1, by simpa [pcAt] using h2⟩
    | none =>
      rw [hr] at h
      simp only at h
      split at h
      · rename_i hp
        simp only [Option.some.injEq] at h
        subst h
        exact ⟨by simp, by simpa [pcAt] using hp⟩
      · simp at h
theorem lastI_set {b : Ed × Ed} : ∀ {ps : List Pc} {i : Nat} {p : Pc}, p.2 = (pcAt ps i).2 → lastI b (ps.set i p) = lastI b ps
  | [], i, p, _ => by simp
  | a :: r, 0, p, h => by
    have h' : p.2 = a.2 := by simpa [pcAt] using h
    simp [lastI, h']
  | a :: r, i + 1, p, h => by
    have := lastI_set (b := b) (ps := r) (i := i) (p := p) (by simpa [pcAt] using h)
    simp [lastI, this]

theorem countP_set' {α : Type} (q : α → Bool) : ∀ (l : List α) (i : Nat) (a z : α), i < l.length → l.getD i z = z ∨ True → (l.set i a).countP q + (if q (l.getD i z) = true then 1 else 0) = l.countP q + (if q a = true then 1 else 0)
  | [], i, a, z, h, _ => by simp at h
  | x :: r, 0, a, z, _, _ => by
    simp only [List.set_cons_zero, List.countP_cons, List.getD_cons_zero]
    omega
  | x :: r, i + 1, a, z, h, hh => by
    have := countP_set' q r i a z (by simpa using h) (.inr trivial)
    simp only [List.set_cons_succ, List.countP_cons, List.getD_cons_succ]
    omega

/-- is the place's x within the piece's? -/
def atX (p : Pc) (X : Rat) : Bool := decide (v p.1.1 ≤ X) && decide (X < v p.1.2)
def cntN (q : Ed × Ed → Bool) (ps : List Pc) (X : Rat) : Nat := ps.countP (fun p => q p.2 && atX p X)

theorem joinB_mem {f t : Fc} {ps : List Pc} {b : Ed × Ed} {p : Pc} (h : p ∈ joinB f t ps b) : p ∈ ps ∨ (p.2 = b ∧ p.1.2 = t ∧ (p.1.1 = f ∨ ∃ p' ∈ ps, p'.2 = b ∧ p'.1.2 = f ∧ p.1.1 = p'.1.1)) := by
  unfold joinB at h
  split at h
  · rename_i i hi
    obtain ⟨h1, h2⟩ := lastI_spec hi
    split at h
    · rename_i hf
      rcases List.mem_or_eq_of_mem_set h with h | rfl
      · exact .inl h
      · exact .inr ⟨rfl, rfl, .inr ⟨pcAt ps i, by unfold pcAt; simp [h1], h2, hf, rfl⟩⟩
    · rcases List.mem_append.1 h with h | h
      · exact .inl h
      · simp at h; subst h; exact .inr ⟨rfl, rfl, .inl rfl⟩
  · rcases List.mem_append.1 h with h | h
    · exact .inl h
    · simp at h; subst h; exact .inr ⟨rfl, rfl, .inl rfl⟩

theorem joinB_count {f t : Fc} (hft : v f < v t) {ps : List Pc} (hps : ∀ p ∈ ps, v p.1.1 < v p.1.2) (b : Ed × Ed) (q : Ed × Ed → Bool) (X : Rat) :
    cntN q (joinB f t ps b) X = cntN q ps X + if (q b && (decide (v f ≤ X) && decide (X < v t))) = true then 1 else 0 := by
  have happ : cntN q (ps ++ [((f, t), b)]) X = cntN q ps X + if (q b && (decide (v f ≤ X) && decide (X < v t))) = true then 1 else 0 := by
    unfold cntN
    rw [List.countP_append]
    simp [atX, List.countP_cons]
  unfold joinB
  split
  · rename_i i hi
    obtain ⟨h1, h2⟩ := lastI_spec hi
    split
    · rename_i hf
      have hm : pcAt ps i ∈ ps := by unfold pcAt; simp [h1]
      have hlt := hps _ hm
      rw [hf] at hlt
      have hc := countP_set' (fun p : Pc => q p.2 && atX p X) ps i (((pcAt ps i).1.1, t), b) zpc h1 (.inr trivial)
      have e0 : ps.getD i zpc = pcAt ps i := rfl
      rw [e0] at hc
      unfold cntN
      unfold atX at hc ⊢
      rw [hf, h2] at hc
      dsimp only at hc ⊢
      have hcase : ((if (q b && (decide (v (pcAt ps i).1.1 ≤ X) && decide (X < v t))) = true then 1 else 0) : Nat) = (if (q b && (decide (v (pcAt ps i).1.1 ≤ X) && decide (X < v f))) = true then 1 else 0) + (if (q b && (decide (v f ≤ X) && decide (X < v t))) = true then 1 else 0) := by
        cases q b
        · simp
        · simp only [Bool.true_and, Bool.and_eq_true, decide_eq_true_eq]
          by_cases c1 : v f ≤ X
          · have c2 : ¬ X < v f := by grind
            have c3 : v (pcAt ps i).1.1 ≤ X := by grind
            simp [c1, c2, c3]
          · have c2 : X < v f := by grind
            have c3 : X < v t := by grind
            simp [c1, c2, c3]
      omega
    · exact happ
  · exact happ

def adj : List Fc → List (Fc × Fc)
  | a :: b :: r => (a, b) :: adj (b :: r)
  | _ => []
theorem adj_mem : ∀ {cs : List Fc} {s : Fc × Fc}, s ∈ adj cs → ∃ pre post, cs = pre ++ s.1 :: s.2 :: post
  | [], s, h => by simp [adj] at h
  | [a], s, h => by simp [adj] at h
  | a :: b :: r, s, h => by
    simp only [adj, List.mem_cons] at h
    rcases h with rfl | h
    · exact ⟨[], r, rfl⟩
    · obtain ⟨pre, post, e⟩ := adj_mem h
      exact ⟨a :: pre, post, by rw [e]; rfl⟩

/-- the pieces of a row of slabs -/
def joinS (bs : Fc → Fc → List (Ed × Ed)) (ps : List Pc) (s : Fc × Fc) : List Pc := (bs s.1 s.2).foldl (joinB s.1 s.2) ps
def joinAll (bs : Fc → Fc → List (Ed × Ed)) (cs : List Fc) : List Pc := (adj cs).foldl (joinS bs) []

theorem joinF_ok {f t : Fc} (hft : v f < v t) : ∀ (l : List (Ed × Ed)) (ps : List Pc), (∀ p ∈ ps, v p.1.1 < v p.1.2) → (∀ p ∈ l.foldl (joinB f t) ps, v p.1.1 < v p.1.2) ∧ ∀ q X, cntN q (l.foldl (joinB f t) ps) X = cntN q ps X + if (decide (v f ≤ X) && decide (X < v t)) = true then l.countP q else 0
  | [], ps, h => ⟨h, fun q X => by simp⟩
  | b :: r, ps, h => by
    have h1 : ∀ p ∈ joinB f t ps b, v p.1.1 < v p.1.2 := by
      intro p hp
      rcases joinB_mem hp with hp | ⟨_, e2, e3⟩
      · exact h p hp
      · rw [e2]
        rcases e3 with e3 | ⟨p', hp', _, e4, e5⟩
        · rw [e3]; exact hft
        · have := h p' hp'
          rw [e5]; rw [e4] at this; grind
    obtain ⟨h2, h3⟩ := joinF_ok hft r _ h1
    refine ⟨h2, fun q X => ?_⟩
    show cntN q (r.foldl (joinB f t) (joinB f t ps b)) X = _
    rw [h3, joinB_count hft h, List.countP_cons]
    cases hq : q b <;> cases hd : (decide (v f ≤ X) && decide (X < v t)) <;> simp <;> omega
theorem joinA_ok (bs : Fc → Fc → List (Ed × Ed)) : ∀ (ss : List (Fc × Fc)) (ps : List Pc), (∀ s ∈ ss, v s.1 < v s.2) → (∀ p ∈ ps, v p.1.1 < v p.1.2) →
    (∀ p ∈ ss.foldl (joinS bs) ps, v p.1.1 < v p.1.2) ∧ ∀ q X, cntN q (ss.foldl (joinS bs) ps) X = cntN q ps X + (ss.map (fun s => if (decide (v s.1 ≤ X) && decide (X < v s.2)) = true then (bs s.1 s.2).countP q else 0)).sum
  | [], ps, _, h => ⟨h, fun q X => by simp⟩
  | s :: r, ps, hs, h => by
    obtain ⟨h1, h2⟩ := joinF_ok (hs s (by simp)) (bs s.1 s.2) ps h
    obtain ⟨h3, h4⟩ := joinA_ok bs r _ (fun x hx => hs x (by simp [hx])) h1
    refine ⟨h3, fun q X => ?_⟩
    show cntN q (r.foldl (joinS bs) ((bs s.1 s.2).foldl (joinB s.1 s.2) ps)) X = _
    rw [h4, h2]
    simp only [List.map_cons, List.sum_cons]
    omega

/-- a place is in one slab at most -/
theorem adj_sum (g : Fc × Fc → Nat) : ∀ (cs : List Fc), cs.Pairwise (fun a b => v a < v b) → ∀ X, ((adj cs).map (fun s => if (decide (v s.1 ≤ X) && decide (X < v s.2)) = true then g s else 0)).sum = match (adj cs).find? (fun s => decide (v s.1 ≤ X) && decide (X < v s.2)) with | some s => g s | none => 0
  | [], _, X => by simp [adj]
  | [a], _, X => by simp [adj]
  | a :: b :: r, h, X => by
    rw [List.pairwise_cons] at h
    have ih := adj_sum g (b :: r) h.2 X
    simp only [adj, List.map_cons, List.sum_cons, List.find?_cons]
    cases hd : (decide (v a ≤ X) && decide (X < v b)) with
    | false => simpa using ih
    | true =>
      have hz : ∀ s ∈ adj (b :: r), (decide (v s.1 ≤ X) && decide (X < v s.2)) = false := by
        intro s hs
        obtain ⟨pre, post, e⟩ := adj_mem hs
        have hb : v b ≤ v s.1 := by
          cases pre with
          | nil => simp at e; rw [e.1]; exact Rat.le_refl
          | cons c pre =>
            simp only [List.cons_append, List.cons.injEq] at e
            have := List.pairwise_cons.1 h.2
            have := this.1 s.1 (by rw [e.2]; simp)
            grind
        simp only [Bool.and_eq_true, decide_eq_true_eq] at hd
        have : ¬ v s.1 ≤ X := by grind
        simp [this]
      have : ((adj (b :: r)).map (fun s => if (decide (v s.1 ≤ X) && decide (X < v s.2)) = true then g s else 0)).sum = 0 := by
        have : (adj (b :: r)).map (fun s => if (decide (v s.1 ≤ X) && decide (X < v s.2)) = true then g s else 0) = (adj (b :: r)).map (fun _ => 0) := by
          apply List.map_congr_left
          intro s hs
          rw [hz s hs]; rfl
        rw [this]
        clear this hz ih h hd
        induction adj (b :: r) with
        | nil => rfl
        | cons c l ih => simpa using ih
      rw [this]
      rfl
/-- and in one, if it is between two cuts -/
theorem adj_some : ∀ (cs : List Fc), cs.Pairwise (fun a b => v a < v b) → ∀ X, ∀ a ∈ cs, ∀ b ∈ cs, v a ≤ X → X < v b → ∃ s, (adj cs).find? (fun s => decide (v s.1 ≤ X) && decide (X < v s.2)) = some s
  | [], _, X, a, ha, _, _, _, _ => by simp at ha
  | [c], _, X, a, ha, b, hb, h1, h2 => by simp at ha hb; subst ha; subst hb; grind
  | c :: d :: r, h, X, a, ha, b, hb, h1, h2 => by
    simp only [adj, List.find?_cons]
    cases hd : (decide (v c ≤ X) && decide (X < v d)) with
    | true => exact ⟨_, rfl⟩
    | false =>
      rw [List.pairwise_cons] at h
      have hca : v c ≤ v a := by
        rcases List.mem_cons.1 ha with rfl | ha
        · exact Rat.le_refl
        · have := h.1 a ha; grind
      have hX : v d ≤ X := by
        simp only [Bool.and_eq_false_iff, decide_eq_false_iff_not] at hd
        grind
      have hb' : b ∈ d :: r := by
        rcases List.mem_cons.1 hb with rfl | hb
        · exfalso; grind
        · exact hb
      exact adj_some (d :: r) h.2 X d (by simp) b hb' hX h2

theorem vsorted {cs : List Fc} (h : cs.Pairwise Lt) (hl : ∀ x ∈ cs, 0 < x.2) : cs.Pairwise (fun a b => v a < v b) := by
  refine List.Pairwise.imp_of_mem ?_ h
  intro a b ha hb hab
  exact (v_lt (hl a ha) (hl b hb)).2 hab

/-- each place on no edge is in just one piece, or in none, as the op has it -/
theorem cut_right {E : List Ed} (F : Fld E) (k : Nat) (op : Int) {X Y : Rat} (hno : ∀ e ∈ E, inX e X = true → ly e X ≠ Y)
    (hev : ∀ o, (List.range E.length).countP (fun n => inX (gd E n) X && (decide (k ≤ n) == o)) % 2 = 0) :
    cntN (fun b => decide (ly b.1 X < Y) && decide (Y < ly b.2 X)) (joinAll (bandsP E k op) (cutsP E [])) X = if keepsB op (bel E k X Y false) (bel E k X Y true) = true then 1 else 0 := by
  have hlim := cutsP_lim F (more := []) (by simp)
  have hsort := vsorted (cutsP_sorted F (more := []) (by simp)) (fun x hx => (hlim x hx).red.1)
  have hgap : ∀ s ∈ adj (cutsP E []), Gap E s.1 s.2 := fun s hs => by
    obtain ⟨pre, post, e⟩ := adj_mem hs
    exact gap_of F (by simp) e
  obtain ⟨_, h2⟩ := joinA_ok (bandsP E k op) (adj (cutsP E [])) [] (fun s hs => (v_lt (hgap s hs).rf.1 (hgap s hs).rt.1).2 (hgap s hs).lt) (by simp)
  unfold joinAll
  rw [h2, adj_sum (fun s => (bandsP E k op s.1 s.2).countP _) _ hsort]
  cases hf : (adj (cutsP E [])).find? (fun s => decide (v s.1 ≤ X) && decide (X < v s.2)) with
  | some s =>
    have h3 := List.find?_some hf
    have h4 := List.mem_of_find?_eq_some hf
    simp only [Bool.and_eq_true, decide_eq_true_eq] at h3
    have := slab_count (k := k) (op := op) (hgap s h4) h3.1 h3.2 hno hev
    simp [cntN, this]
  | none =>
    have hin : ∀ n ∈ List.range E.length, inX (gd E n) X = false := by
      intro n hn
      have he : gd E n ∈ E := gd_mem (List.mem_range.1 hn)
      obtain ⟨e', he', h'⟩ := F.next _ he
      have c1 := cuts_begin [] he
      have c2 := cuts_begin [] he'
      rw [h'] at c2
      cases hi : inX (gd E n) X with
      | false => rfl
      | true =>
        exfalso
        unfold inX at hi
        rw [decide_eq_true_eq] at hi
        rcases hi with ⟨i1, i2⟩ | ⟨i1, i2⟩
        · obtain ⟨s, hs⟩ := adj_some _ hsort X _ c1 _ c2 (by rw [v_one]; exact i1) (by rw [v_one]; exact i2)
          rw [hf] at hs; simp at hs
        · obtain ⟨s, hs⟩ := adj_some _ hsort X _ c2 _ c1 (by rw [v_one]; exact i1) (by rw [v_one]; exact i2)
          rw [hf] at hs; simp at hs
    have hb : ∀ o, bel E k X Y o = 0 := by
      intro o
      unfold bel
      rw [List.countP_eq_zero]
      intro n hn
      rw [hin n hn]
      simp
    rw [hb, hb]
    simp [cntN, keepsB, opK_ff]

end Go.Proofs.YtkjlkbgdkdcboaaGreatDoor.Acre

namespace Go.Proofs.YtkjlkbgdkdcboaaGreatDoor.Acre

/-- has it begun, and not ended, at that cut? -/
def act (p : Pc) (f : Fc) : Int := (if Lt f p.1.1 then 0 else 1) - (if Lt f p.1.2 then 0 else 1)
/-- the layer on which an edge's line is -/
def rk (E : List Ed) (x : Fc) (e : Ed) : Nat := (hts E x).idxOf (hgt e x)
def aboveP (E : List Ed) (ps : List Pc) (f t : Fc) (i : Nat) : Int := (ps.map (fun p => if decide (rk E (mdn f t) p.2.1 ≤ i) && decide (i < rk E (mdn f t) p.2.2) then act p f else 0)).sum
def acrossP (E : List Ed) (ps : List Pc) (f t : Fc) (i : Nat) : Int := (ps.map (fun p => if decide (rk E (mdn f t) p.2.1 < i) && decide (i < rk E (mdn f t) p.2.2) then act p f else 0)).sum
def dueP (E : List Ed) (k : Nat) (op : Int) (f t : Fc) (i : Nat) : Int := if insAt E k op f t ((hts E (mdn f t)).take (i + 1)) then 1 else 0
def slabOk (E : List Ed) (k : Nat) (op : Int) (ps : List Pc) (f t : Fc) : Bool :=
  (List.range (hts E (mdn f t)).length).all (fun i => aboveP E ps f t i == dueP E k op f t i && (!(spAt E f t ((hts E (mdn f t)).getD i (0, 0))).isEmpty || acrossP E ps f t i == dueP E k op f t i))
def endsP (ps : List Pc) : List Fc := ps.flatMap (fun p => [p.1.1, p.1.2])
/-- are the pieces right? -/
def filledP (E : List Ed) (k : Nat) (op : Int) (ps : List Pc) : Bool := (adj (cutsP E (endsP ps))).all (fun s => slabOk E k op ps s.1 s.2)

/-- a piece as a certificate has it -/
structure Good (E : List Ed) (p : Pc) : Prop where
  from' : Lim p.1.1
  to' : Lim p.1.2
  lt : Lt p.1.1 p.1.2
  lo : p.2.1 ∈ E ∧ upr p.2.1 = false
  hi : p.2.2 ∈ E ∧ upr p.2.2 = false

theorem sum_act {ps : List Pc} {f : Fc} {w : Pc → Bool} {at' : Pc → Bool} (h : ∀ p ∈ ps, act p f = if at' p = true then 1 else 0) : (ps.map (fun p => if w p = true then act p f else 0)).sum = ((ps.countP (fun p => w p && at' p) : Nat) : Int) := by
  induction ps with
  | nil => rfl
  | cons a r ih =>
    have ha := h a (by simp)
    have ih := ih (fun p hp => h p (by simp [hp]))
    simp only [List.map_cons, List.sum_cons, List.countP_cons, ih, ha]
    cases w a <;> cases at' a <;> simp <;> omega

/-- at a slab's x the pieces are those that go on there -/
theorem act_at {f t : Fc} {p : Pc} {X : Rat} (hf : 0 < f.2) (h1 : 0 < p.1.1.2) (h2 : 0 < p.1.2.2) (hlt : Lt p.1.1 p.1.2) (c1 : v p.1.1 ≤ v f ∨ v t ≤ v p.1.1) (c2 : v p.1.2 ≤ v f ∨ v t ≤ v p.1.2) (hX : v f ≤ X) (hX2 : X < v t) : act p f = if atX p X = true then 1 else 0 := by
  have e1 := v_lt hf h1
  have e2 := v_lt hf h2
  have e3 := (v_lt h1 h2).2 hlt
  unfold act atX
  simp only [Bool.and_eq_true, decide_eq_true_eq]
  by_cases a1 : Lt f p.1.1 <;> by_cases a2 : Lt f p.1.2 <;> simp only [a1, a2, if_true, if_false]
  · have := e1.2 a1
    rw [if_neg (by grind)]; rfl
  · have := e1.2 a1
    have : ¬ v f < v p.1.2 := fun h => a2 (e2.1 h)
    rw [if_neg (by grind)]; grind
  · have := e2.2 a2
    have : ¬ v f < v p.1.1 := fun h => a1 (e1.1 h)
    rw [if_pos (by grind)]; rfl
  · have : ¬ v f < v p.1.1 := fun h => a1 (e1.1 h)
    have : ¬ v f < v p.1.2 := fun h => a2 (e2.1 h)
    rw [if_neg (by grind)]; rfl

theorem idx_lt {l A B : List Fc} {h : Fc} (hl : l = A ++ B) (hn : l.Nodup) (hm : h ∈ l) : l.idxOf h < A.length ↔ h ∈ A := by
  subst hl
  by_cases ha : h ∈ A
  · rw [List.idxOf_append, if_pos ha]
    exact ⟨fun _ => ha, fun _ => List.idxOf_lt_length_iff.2 ha⟩
  · rw [List.idxOf_append, if_neg ha]
    exact ⟨fun h' => by omega, fun h' => absurd h' ha⟩

theorem fill_core (c : (Nat → Nat → Bool) → Nat) (hadd : ∀ P Q : Nat → Nat → Bool, (∀ l h, (P l h && Q l h) = false) → c (fun l h => P l h || Q l h) = c P + c Q) (hmono : ∀ P Q : Nat → Nat → Bool, (∀ l h, P l h = true → Q l h = true) → c P ≤ c Q)
    (a m d : Nat) (ha : 0 < a) (hab : ∀ j, j ≤ m → c (fun l h => decide (l ≤ a + j - 1) && decide (a + j - 1 < h)) = d) (hac : ∀ j, j < m → c (fun l h => decide (l < a + j) && decide (a + j < h)) = d) :
    c (fun l h => decide (l < a) && decide (a + m ≤ h)) = d := by
  have key : ∀ j, j ≤ m → c (fun l h => decide (l < a) && decide (a + j ≤ h)) = d := by
    intro j
    induction j with
    | zero =>
      intro _
      rw [← hab 0 (Nat.zero_le _)]
      congr 1
      funext l h
      have e1 : decide (l < a) = decide (l ≤ a + 0 - 1) := decide_eq_decide.2 (by omega)
      have e2 : decide (a + 0 ≤ h) = decide (a + 0 - 1 < h) := decide_eq_decide.2 (by omega)
      rw [e1, e2]
    | succ j ih =>
      intro hj
      have ih := ih (by omega)
      have h1 := hadd (fun l h => decide (l < a) && decide (a + (j + 1) ≤ h)) (fun l h => decide (l < a) && decide (h = a + j)) (fun l h => by
        by_cases e : h = a + j
        · have : ¬ a + (j + 1) ≤ h := by omega
          simp [this]
        · simp [e])
      have h2 : (fun l h => (decide (l < a) && decide (a + (j + 1) ≤ h)) || (decide (l < a) && decide (h = a + j))) = fun l h => decide (l < a) && decide (a + j ≤ h) := by
        funext l h
        rw [← Bool.and_or_distrib_left]
        congr 1
        rw [← Bool.decide_or]
        exact decide_eq_decide.2 (by omega)
      rw [h2, ih] at h1
      have h3 := hadd (fun l h => decide (l < a + j) && decide (a + j < h)) (fun l h => decide (l < a + j) && decide (h = a + j)) (fun l h => by
        by_cases e : h = a + j
        · have : ¬ a + j < h := by omega
          simp [this]
        · simp [e])
      have h4 : (fun l h => (decide (l < a + j) && decide (a + j < h)) || (decide (l < a + j) && decide (h = a + j))) = fun l h => decide (l ≤ a + j - 1) && decide (a + j - 1 < h) := by
        funext l h
        rw [← Bool.and_or_distrib_left, ← Bool.decide_or]
        have e1 : decide (l < a + j) = decide (l ≤ a + j - 1) := decide_eq_decide.2 (by omega)
        have e2 : decide (a + j < h ∨ h = a + j) = decide (a + j - 1 < h) := decide_eq_decide.2 (by omega)
        rw [e1, e2]
      rw [h4, hab j (by omega), hac j (by omega)] at h3
      have h5 := hmono (fun l h => decide (l < a) && decide (h = a + j)) (fun l h => decide (l < a + j) && decide (h = a + j)) (fun l h hh => by
        simp only [Bool.and_eq_true, decide_eq_true_eq] at hh ⊢
        omega)
      omega
  exact key m (Nat.le_refl _)

end Go.Proofs.YtkjlkbgdkdcboaaGreatDoor.Acre

namespace Go.Proofs.YtkjlkbgdkdcboaaGreatDoor.Acre

theorem ends_lim {E : List Ed} {ps : List Pc} (hg : ∀ p ∈ ps, Good E p) : ∀ x ∈ endsP ps, Lim x := by
  intro x hx
  obtain ⟨p, hp, hx⟩ := List.mem_flatMap.1 hx
  simp at hx
  rcases hx with rfl | rfl
  · exact (hg p hp).from'
  · exact (hg p hp).to'
theorem ends_mem {ps : List Pc} {p : Pc} (hp : p ∈ ps) : p.1.1 ∈ endsP ps ∧ p.1.2 ∈ endsP ps :=
  ⟨List.mem_flatMap.2 ⟨p, hp, by simp⟩, List.mem_flatMap.2 ⟨p, hp, by simp⟩⟩

/-- nothing is beyond the cuts -/
theorem outside {E : List Ed} (F : Fld E) {more : List Fc} (hm : ∀ x ∈ more, Lim x) {X : Rat} (hf : (adj (cutsP E more)).find? (fun s => decide (v s.1 ≤ X) && decide (X < v s.2)) = none) (k : Nat) (op : Int) (Y : Rat) :
    keepsB op (bel E k X Y false) (bel E k X Y true) = false := by
  have hlim := cutsP_lim F hm
  have hsort := vsorted (cutsP_sorted F hm) (fun x hx => (hlim x hx).red.1)
  have hin : ∀ n ∈ List.range E.length, inX (gd E n) X = false := by
    intro n hn
    have he : gd E n ∈ E := gd_mem (List.mem_range.1 hn)
    obtain ⟨e', he', h'⟩ := F.next _ he
    have c1 := cuts_begin more he
    have c2 := cuts_begin more he'
    rw [h'] at c2
    cases hi : inX (gd E n) X with
    | false => rfl
    | true =>
      exfalso
      unfold inX at hi
      rw [decide_eq_true_eq] at hi
      rcases hi with ⟨i1, i2⟩ | ⟨i1, i2⟩
      · obtain ⟨s, hs⟩ := adj_some _ hsort X _ c1 _ c2 (by rw [v_one]; exact i1) (by rw [v_one]; exact i2)
        rw [hf] at hs; simp at hs
      · obtain ⟨s, hs⟩ := adj_some _ hsort X _ c2 _ c1 (by rw [v_one]; exact i1) (by rw [v_one]; exact i2)
        rw [hf] at hs; simp at hs
  have hb : ∀ o, bel E k X Y o = 0 := by
    intro o
    unfold bel
    rw [List.countP_eq_zero]
    intro n hn
    rw [hin n hn]
    simp
  rw [hb, hb]
  simp [keepsB, opK_ff]

/-- **what the checker takes is right** -/
theorem fill_right {E : List Ed} (F : Fld E) (k : Nat) (op : Int) {ps : List Pc} (hg : ∀ p ∈ ps, Good E p) (hfill : filledP E k op ps = true) {X Y : Rat} (hno : ∀ e ∈ E, inX e X = true → ly e X ≠ Y) :
    cntN (fun b => decide (ly b.1 X < Y) && decide (Y < ly b.2 X)) ps X = if keepsB op (bel E k X Y false) (bel E k X Y true) = true then 1 else 0 := by
  have hm := ends_lim hg
  have hlim := cutsP_lim F hm
  have hsl := cutsP_sorted F hm
  have hsort := vsorted hsl (fun x hx => (hlim x hx).red.1)
  cases hf : (adj (cutsP E (endsP ps))).find? (fun s => decide (v s.1 ≤ X) && decide (X < v s.2)) with
  | none =>
    rw [outside F hm hf k op Y]
    simp only [Bool.false_eq_true, if_false]
    unfold cntN
    rw [List.countP_eq_zero]
    intro p hp
    have h1 := ends_mem hp
    have : atX p X = false := by
      cases hx : atX p X with
      | false => rfl
      | true =>
        exfalso
        unfold atX at hx
        simp only [Bool.and_eq_true, decide_eq_true_eq] at hx
        obtain ⟨s, hs⟩ := adj_some _ hsort X _ (cuts_more (E := E) h1.1) _ (cuts_more (E := E) h1.2) hx.1 hx.2
        rw [hf] at hs; simp at hs
    rw [this]; simp
  | some s =>
    have h3 := List.find?_some hf
    have h4 := List.mem_of_find?_eq_some hf
    simp only [Bool.and_eq_true, decide_eq_true_eq] at h3
    obtain ⟨hX, hX2⟩ := h3
    obtain ⟨pre, post, hc⟩ := adj_mem h4
    have G := gap_of F hm hc
    obtain ⟨f, t⟩ := s
    dsimp only at *
    have hok : slabOk E k op ps f t = true := by
      unfold filledP at hfill
      rw [List.all_eq_true] at hfill
      exact hfill (f, t) h4
    have hcon : ∀ z ∈ cutsP E (endsP ps), v z ≤ v f ∨ v t ≤ v z := fun z hz => by
      have hs' := hsl
      rw [hc] at hs' hz
      exact consec hs' (fun x hx => (hlim x (by rw [hc]; exact hx)).red.1) hz
    have hact : ∀ p ∈ ps, act p f = if atX p X = true then 1 else 0 := fun p hp => by
      have g := hg p hp
      have h1 := ends_mem hp
      exact act_at G.rf.1 g.from'.red.1 g.to'.red.1 g.lt (hcon _ (cuts_more h1.1)) (hcon _ (cuts_more h1.2)) hX hX2
    obtain ⟨m0, m1, m2⟩ := G.mid
    obtain ⟨key, hkdef⟩ : ∃ key : Fc → Rat, key = fun h => ly (rep E (mdn f t) h) X := ⟨_, rfl⟩
    have hkey : ∀ e ∈ E, upr e = false → ly e X = key (hgt e (mdn f t)) := by
      intro e he hu
      have hm : hgt e (mdn f t) ∈ hts E (mdn f t) := mem_hts.2 ⟨e, he, hu, rfl⟩
      obtain ⟨r1, r2, r3⟩ := rep_spec hm
      rw [hkdef]
      exact G.same he r1 hu r2 r3.symm X
    have hpw : (hts E (mdn f t)).Pairwise (fun a b => key a ≤ key b) := by
      refine List.Pairwise.imp_of_mem ?_ (hts_sorted (E := E) m0)
      intro a b ha hb hab
      obtain ⟨a1, a2, a3⟩ := rep_spec ha
      obtain ⟨b1, b2, b3⟩ := rep_spec hb
      rw [hkdef]
      exact G.le a1 b1 a2 b2 (by rw [a3, b3]; exact hab) hX hX2
    have hnd := nodup_of_lt (hts_sorted (E := E) m0)
    have hs3 := split3 key Y _ hpw
    obtain ⟨A, hA⟩ : ∃ A, (hts E (mdn f t)).filter (fun a => decide (key a < Y)) = A := ⟨_, rfl⟩
    obtain ⟨M, hM⟩ : ∃ M, (hts E (mdn f t)).filter (fun a => decide (key a = Y)) = M := ⟨_, rfl⟩
    obtain ⟨U, hU⟩ : ∃ U, (hts E (mdn f t)).filter (fun a => decide (Y < key a)) = U := ⟨_, rfl⟩
    rw [hA, hM, hU] at hs3
    have hAm : ∀ h, h ∈ A ↔ h ∈ hts E (mdn f t) ∧ key h < Y := fun h => by rw [← hA]; simp
    have hMm : ∀ h ∈ M, h ∈ hts E (mdn f t) ∧ key h = Y := fun h hh => by rw [← hM] at hh; simpa using hh
    have hAnd : A.Nodup := by rw [← hA]; exact hnd.filter _
    have hMb : ∀ h ∈ M, spAt E f t h = [] := by
      intro h hh
      obtain ⟨h1, h2⟩ := hMm h hh
      rw [List.eq_nil_iff_forall_not_mem]
      intro n hn
      obtain ⟨n1, n2, n3, n4⟩ := spAt_mem.1 hn
      have hn' : gd E n ∈ E := gd_mem n1
      have hi : inX (gd E n) X = true := by rw [← G.spans hn' hX hX2, n2, n4]; rfl
      exact hno _ hn' hi (by rw [hkey _ hn' n2, n3, h2])
    have hbel : ∀ o, cntB E k f t A o = bel E k X Y o := by
      intro o
      unfold cntB bel
      have e1 : A.flatMap (spAt E f t) = A.flatMap (fun h => (List.range E.length).filter (fun n => (!upr (gd E n) && spn (gd E n) f t) && hgt (gd E n) (mdn f t) == h)) := by
        congr 1
        funext h
        exact spAt_eq E f t h
      rw [e1, countP_flat _ _ _ (fun n => hgt (gd E n) (mdn f t)) A hAnd]
      apply List.countP_congr
      intro n hn
      have hn' : gd E n ∈ E := gd_mem (List.mem_range.1 hn)
      have hsp := G.spans hn' hX hX2
      rw [hsp]
      cases hi : inX (gd E n) X
      · simp
      · rw [hi] at hsp
        have hu : upr (gd E n) = false := by simp at hsp; exact hsp.1
        have : decide (hgt (gd E n) (mdn f t) ∈ A) = decide (ly (gd E n) X < Y) := by
          apply decide_eq_decide.2
          rw [hAm, hkey _ hn' hu]
          exact ⟨fun h => h.2, fun h => ⟨mem_hts.2 ⟨_, hn', hu, rfl⟩, h⟩⟩
        rw [this]
    have hins : insAt E k op f t A = keepsB op (bel E k X Y false) (bel E k X Y true) := by unfold insAt; rw [hbel, hbel]
    -- by ranks
    have hrk1 : ∀ e ∈ E, upr e = false → (rk E (mdn f t) e < A.length ↔ ly e X < Y) := by
      intro e he hu
      have hm : hgt e (mdn f t) ∈ hts E (mdn f t) := mem_hts.2 ⟨e, he, hu, rfl⟩
      unfold rk
      rw [idx_lt hs3 hnd hm, hAm, hkey e he hu]
      exact ⟨fun h => h.2, fun h => ⟨hm, h⟩⟩
    have hrk2 : ∀ e ∈ E, upr e = false → (A.length + M.length ≤ rk E (mdn f t) e ↔ Y < ly e X) := by
      intro e he hu
      have hm : hgt e (mdn f t) ∈ hts E (mdn f t) := mem_hts.2 ⟨e, he, hu, rfl⟩
      have h1 := idx_lt (l := hts E (mdn f t)) (A := A ++ M) (B := U) (by rw [hs3, List.append_assoc]) hnd hm
      rw [List.length_append] at h1
      unfold rk
      rw [← Nat.not_lt, h1, hkey e he hu, List.mem_append]
      constructor
      · intro h
        have c1 : ¬ key (hgt e (mdn f t)) < Y := fun hh => h (.inl ((hAm _).2 ⟨hm, hh⟩))
        have c2 : ¬ key (hgt e (mdn f t)) = Y := fun hh => h (.inr (by rw [← hM]; simp [hm, hh]))
        grind
      · rintro h (hh | hh)
        · have := ((hAm _).1 hh).2; grind
        · have := (hMm _ hh).2; grind
    have hcnt : cntN (fun b => decide (ly b.1 X < Y) && decide (Y < ly b.2 X)) ps X = ps.countP (fun p => (decide (rk E (mdn f t) p.2.1 < A.length) && decide (A.length + M.length ≤ rk E (mdn f t) p.2.2)) && atX p X) := by
      unfold cntN
      apply List.countP_congr
      intro p hp
      have g := hg p hp
      rw [decide_eq_decide.2 (hrk1 _ g.lo.1 g.lo.2), decide_eq_decide.2 (hrk2 _ g.hi.1 g.hi.2)]
    rw [hcnt, ← hins]
    -- what the checker has looked at
    have hlen : (hts E (mdn f t)).length = A.length + M.length + U.length := by rw [hs3]; simp; omega
    have hlook : ∀ i, i < (hts E (mdn f t)).length → ((ps.countP (fun p => (decide (rk E (mdn f t) p.2.1 ≤ i) && decide (i < rk E (mdn f t) p.2.2)) && atX p X) : Nat) : Int) = dueP E k op f t i ∧
        (spAt E f t ((hts E (mdn f t)).getD i (0, 0)) = [] → ((ps.countP (fun p => (decide (rk E (mdn f t) p.2.1 < i) && decide (i < rk E (mdn f t) p.2.2)) && atX p X) : Nat) : Int) = dueP E k op f t i) := by
      intro i hi
      unfold slabOk at hok
      rw [List.all_eq_true] at hok
      have := hok i (List.mem_range.2 hi)
      simp only [Bool.and_eq_true, beq_iff_eq, Bool.or_eq_true, Bool.not_eq_true', List.isEmpty_eq_false_iff] at this
      obtain ⟨h1, h2⟩ := this
      unfold aboveP at h1
      unfold acrossP at h2
      rw [sum_act hact] at h1
      rw [sum_act hact] at h2
      exact ⟨h1, fun he => h2.resolve_left (fun hn => hn he)⟩
    have htake : ∀ j, j ≤ M.length → insAt E k op f t ((hts E (mdn f t)).take (A.length + j)) = insAt E k op f t A := by
      intro j hj
      have : (hts E (mdn f t)).take (A.length + j) = A ++ M.take j := by
        have hle : j ≤ M.length := hj
        rw [hs3, List.take_length_add_append, List.take_append_of_le_length hle]
      rw [this]
      exact ins_bares E k op f t A _ (fun h hh => hMb h (List.mem_of_mem_take hh))
    by_cases ha : A.length = 0
    · have hA0 : A = [] := List.length_eq_zero_iff.1 ha
      rw [hA0, ins_nil]
      simp
    · have hd : ∀ j, j ≤ M.length → (A.length + j - 1 < (hts E (mdn f t)).length) := fun j hj => by omega
      have := fill_core (fun P => ps.countP (fun p => P (rk E (mdn f t) p.2.1) (rk E (mdn f t) p.2.2) && atX p X))
        (fun P Q hPQ => by
          dsimp only
          clear hact hcnt hlook hg hm hlim hsl hsort hf h4 hc hok hcon hfill
          induction ps with
          | nil => rfl
          | cons a r ih =>
            simp only [List.countP_cons, ih]
            have := hPQ (rk E (mdn f t) a.2.1) (rk E (mdn f t) a.2.2)
            revert this
            cases P (rk E (mdn f t) a.2.1) (rk E (mdn f t) a.2.2) <;> cases Q (rk E (mdn f t) a.2.1) (rk E (mdn f t) a.2.2) <;> cases atX a X <;> simp <;> omega)
        (fun P Q hPQ => by
          apply List.countP_mono_left
          intro p _ hp
          simp only [Bool.and_eq_true] at hp ⊢
          exact ⟨hPQ _ _ hp.1, hp.2⟩)
        A.length M.length (if insAt E k op f t A = true then 1 else 0) (by omega)
        (fun j hj => by
          have h1 := (hlook _ (hd j hj)).1
          unfold dueP at h1
          have e1 : A.length + j - 1 + 1 = A.length + j := by omega
          rw [e1, htake j hj] at h1
          cases hi : insAt E k op f t A <;> simp only [hi, if_true, Bool.false_eq_true, if_false] at h1 ⊢ <;> omega)
        (fun j hj => by
          have hlt : A.length + j < (hts E (mdn f t)).length := by omega
          have h1 := (hlook _ hlt).2 (by
            refine hMb _ ?_
            have : (hts E (mdn f t)).getD (A.length + j) (0, 0) = M.getD j (0, 0) := by
              rw [hs3]
              have : ¬ A.length + j < A.length := by omega
              simp [List.getD, List.getElem?_append, hj, this]
            rw [this]
            simp [hj])
          unfold dueP at h1
          have e1 : A.length + j + 1 = A.length + (j + 1) := by omega
          rw [e1, htake (j + 1) (by omega)] at h1
          cases hi : insAt E k op f t A <;> simp only [hi, if_true, Bool.false_eq_true, if_false] at h1 ⊢ <;> omega)
      exact this

end Go.Proofs.YtkjlkbgdkdcboaaGreatDoor.Acre

namespace Go.Proofs.YtkjlkbgdkdcboaaGreatDoor.Acre

theorem adj_find : ∀ (cs : List Fc), cs.Pairwise (fun a b => v a < v b) → ∀ (X : Rat) (s : Fc × Fc), s ∈ adj cs → v s.1 ≤ X → X < v s.2 → (adj cs).find? (fun s => decide (v s.1 ≤ X) && decide (X < v s.2)) = some s
  | [], _, X, s, hs, _, _ => by simp [adj] at hs
  | [a], _, X, s, hs, _, _ => by simp [adj] at hs
  | a :: b :: r, h, X, s, hs, h1, h2 => by
    simp only [adj, List.mem_cons] at hs
    simp only [adj, List.find?_cons]
    rcases hs with rfl | hs
    · have : (decide (v a ≤ X) && decide (X < v b)) = true := by simp [h1, h2]
      simp [this]
    · rw [List.pairwise_cons] at h
      obtain ⟨pre, post, e⟩ := adj_mem hs
      have hb : v b ≤ v s.1 := by
        cases pre with
        | nil => simp at e; rw [e.1]; exact Rat.le_refl
        | cons c pre =>
          simp only [List.cons_append, List.cons.injEq] at e
          have := List.pairwise_cons.1 h.2
          have := this.1 s.1 (by rw [e.2]; simp)
          grind
      have : (decide (v a ≤ X) && decide (X < v b)) = false := by
        have : ¬ X < v b := by grind
        simp [this]
      rw [this]
      exact adj_find (b :: r) h.2 X s hs h1 h2

theorem joinF_mem {f t : Fc} {P : Fc → Prop} {Q : Ed × Ed → Prop} (hf : P f) (ht : P t) : ∀ (l : List (Ed × Ed)) (ps : List Pc), (∀ b ∈ l, Q b) → (∀ p ∈ ps, P p.1.1 ∧ P p.1.2 ∧ Q p.2) → ∀ p ∈ l.foldl (joinB f t) ps, P p.1.1 ∧ P p.1.2 ∧ Q p.2
  | [], ps, _, h => h
  | b :: r, ps, hl, h => joinF_mem hf ht r _ (fun x hx => hl x (by simp [hx])) (fun p hp => by
    rcases joinB_mem hp with hp | ⟨e1, e2, e3⟩
    · exact h p hp
    · refine ⟨?_, by rw [e2]; exact ht, by rw [e1]; exact hl b (by simp)⟩
      rcases e3 with e3 | ⟨p', hp', _, _, e5⟩
      · rw [e3]; exact hf
      · rw [e5]; exact (h p' hp').1)
theorem joinA_mem (bs : Fc → Fc → List (Ed × Ed)) {P : Fc → Prop} {Q : Ed × Ed → Prop} : ∀ (ss : List (Fc × Fc)) (ps : List Pc), (∀ s ∈ ss, P s.1 ∧ P s.2 ∧ ∀ b ∈ bs s.1 s.2, Q b) → (∀ p ∈ ps, P p.1.1 ∧ P p.1.2 ∧ Q p.2) → ∀ p ∈ ss.foldl (joinS bs) ps, P p.1.1 ∧ P p.1.2 ∧ Q p.2
  | [], ps, _, h => h
  | s :: r, ps, hs, h => joinA_mem bs r _ (fun x hx => hs x (by simp [hx])) (joinF_mem (hs s (by simp)).1 (hs s (by simp)).2.1 _ _ (hs s (by simp)).2.2 h)

theorem bandsP_mem {E : List Ed} {k : Nat} {op : Int} {f t : Fc} {b : Ed × Ed} (hb : b ∈ bandsP E k op f t) : (b.1 ∈ E ∧ upr b.1 = false) ∧ (b.2 ∈ E ∧ upr b.2 = false) := by
  unfold bandsP at hb
  obtain ⟨c, hc, rfl⟩ := List.mem_map.1 hb
  obtain ⟨⟨_, g2⟩, ⟨_, g4⟩⟩ := bands_good c hc
  obtain ⟨a1, a2, _, _⟩ := edgeAt_spec g2
  obtain ⟨b1, b2, _, _⟩ := edgeAt_spec g4
  exact ⟨⟨a1, a2⟩, ⟨b1, b2⟩⟩
/-- the pieces of the slow engine are as a certificate has them, and begin and end at its cuts -/
theorem cut_good {E : List Ed} (F : Fld E) (k : Nat) (op : Int) : ∀ p ∈ joinAll (bandsP E k op) (cutsP E []), Good E p ∧ p.1.1 ∈ cutsP E [] ∧ p.1.2 ∈ cutsP E [] := by
  have hlim := cutsP_lim F (more := []) (by simp)
  have hgap : ∀ s ∈ adj (cutsP E []), Gap E s.1 s.2 := fun s hs => by
    obtain ⟨pre, post, e⟩ := adj_mem hs
    exact gap_of F (by simp) e
  have hin : ∀ s ∈ adj (cutsP E []), s.1 ∈ cutsP E [] ∧ s.2 ∈ cutsP E [] := fun s hs => by
    obtain ⟨pre, post, e⟩ := adj_mem hs
    rw [e]; simp
  obtain ⟨h1, _⟩ := joinA_ok (bandsP E k op) (adj (cutsP E [])) [] (fun s hs => (v_lt (hgap s hs).rf.1 (hgap s hs).rt.1).2 (hgap s hs).lt) (by simp)
  have h2 := joinA_mem (bandsP E k op) (P := fun x => x ∈ cutsP E []) (Q := fun b => (b.1 ∈ E ∧ upr b.1 = false) ∧ (b.2 ∈ E ∧ upr b.2 = false)) (adj (cutsP E [])) [] (fun s hs => ⟨(hin s hs).1, (hin s hs).2, fun b hb => bandsP_mem hb⟩) (by simp)
  intro p hp
  obtain ⟨a1, a2, a3⟩ := h2 p hp
  exact ⟨⟨hlim _ a1, hlim _ a2, (v_lt (hlim _ a1).red.1 (hlim _ a2).red.1).1 (h1 p hp), a3.1, a3.2⟩, a1, a2⟩

theorem rk_edge {E : List Ed} {f t h : Fc} (hb : spAt E f t h ≠ []) : rk E (mdn f t) (edgeAt E f t h) = (hts E (mdn f t)).idxOf h := by
  unfold rk
  rw [(edgeAt_spec hb).2.2.1]

/-- **the slow engine's pieces are taken** -/
theorem fill_cut {E : List Ed} (F : Fld E) (k : Nat) (op : Int) (hev : ∀ X o, (List.range E.length).countP (fun n => inX (gd E n) X && (decide (k ≤ n) == o)) % 2 = 0) : filledP E k op (joinAll (bandsP E k op) (cutsP E [])) = true := by
  have hgood := cut_good F k op
  have hlim := cutsP_lim F (more := []) (by simp)
  have hsl := cutsP_sorted F (more := []) (by simp)
  have hsort := vsorted hsl (fun x hx => (hlim x hx).red.1)
  have hgap : ∀ s ∈ adj (cutsP E []), Gap E s.1 s.2 := fun s hs => by
    obtain ⟨pre, post, e⟩ := adj_mem hs
    exact gap_of F (by simp) e
  obtain ⟨_, hcount⟩ := joinA_ok (bandsP E k op) (adj (cutsP E [])) [] (fun s hs => (v_lt (hgap s hs).rf.1 (hgap s hs).rt.1).2 (hgap s hs).lt) (by simp)
  have hcs : cutsP E (endsP (joinAll (bandsP E k op) (cutsP E []))) = cutsP E [] := by
    refine sorted_one _ _ (cutsP_sorted F (ends_lim (fun p hp => (hgood p hp).1))) hsl (fun x => ?_)
    constructor
    · intro hx
      unfold cutsP cutL at hx
      rw [mem_sortD] at hx
      rcases List.mem_append.1 hx with h | h
      · obtain ⟨p, hp, hx⟩ := List.mem_flatMap.1 h
        simp at hx
        rcases hx with rfl | rfl
        · exact (hgood p hp).2.1
        · exact (hgood p hp).2.2
      · unfold cutsP cutL
        rw [mem_sortD]
        exact List.mem_append.2 (.inr h)
    · intro hx
      unfold cutsP cutL at hx ⊢
      rw [mem_sortD] at hx ⊢
      rcases List.mem_append.1 hx with h | h
      · simp at h
      · exact List.mem_append.2 (.inr h)
  unfold filledP
  rw [hcs, List.all_eq_true]
  rintro ⟨f, t⟩ hs
  dsimp only
  have G := hgap _ hs
  dsimp only at G
  obtain ⟨m0, m1, m2⟩ := G.mid
  have hX : v f ≤ v f := Rat.le_refl
  have hX2 : v f < v t := (v_lt G.rf.1 G.rt.1).2 G.lt
  obtain ⟨pre, post, hc⟩ := adj_mem hs
  dsimp only at hc
  have hcon : ∀ z ∈ cutsP E [], v z ≤ v f ∨ v t ≤ v z := fun z hz => by
    have hs' := hsl
    rw [hc] at hs' hz
    exact consec hs' (fun x hx => (hlim x (by rw [hc]; exact hx)).red.1) hz
  have hact : ∀ p ∈ joinAll (bandsP E k op) (cutsP E []), act p f = if atX p (v f) = true then 1 else 0 := fun p hp => by
    obtain ⟨g, h1, h2⟩ := hgood p hp
    exact act_at G.rf.1 g.from'.red.1 g.to'.red.1 g.lt (hcon _ h1) (hcon _ h2) hX hX2
  have hN : ∀ q, cntN q (joinAll (bandsP E k op) (cutsP E [])) (v f) = (bandsP E k op f t).countP q := fun q => by
    unfold joinAll
    rw [hcount, adj_sum (fun s => (bandsP E k op s.1 s.2).countP q) _ hsort, adj_find _ hsort (v f) (f, t) hs hX hX2]
    simp [cntN]
  have hnd := nodup_of_lt (hts_sorted (E := E) m0)
  have hall : insAt E k op f t (hts E (mdn f t)) = false := by
    have hcnt : ∀ o, cntB E k f t (hts E (mdn f t)) o % 2 = 0 := by
      intro o
      unfold cntB
      have e1 : (hts E (mdn f t)).flatMap (spAt E f t) = (hts E (mdn f t)).flatMap (fun h => (List.range E.length).filter (fun n => (!upr (gd E n) && spn (gd E n) f t) && hgt (gd E n) (mdn f t) == h)) := by
        congr 1
        funext h
        exact spAt_eq E f t h
      rw [e1, countP_flat _ _ _ (fun n => hgt (gd E n) (mdn f t)) _ hnd, ← hev (v f) o]
      congr 1
      apply List.countP_congr
      intro n hn
      have hn' : gd E n ∈ E := gd_mem (List.mem_range.1 hn)
      have hsp := G.spans hn' hX hX2
      rw [hsp]
      cases hi : inX (gd E n) (v f)
      · simp
      · rw [hi] at hsp
        have hu : upr (gd E n) = false := by simp at hsp; exact hsp.1
        have : hgt (gd E n) (mdn f t) ∈ hts E (mdn f t) := mem_hts.2 ⟨_, hn', hu, rfl⟩
        simp [this]
    unfold insAt keepsB
    rw [hcnt, hcnt]
    exact opK_ff op
  have hlast : ∀ L, Slab.lastF false (flagsL (insAt E k op f t) [] L) = insAt E k op f t L := fun L => by
    have := flagsL_last (insAt E k op f t) [] L
    rw [ins_nil] at this
    simpa using this
  -- by heights
  have hH : ∀ (lo hi : Nat → Bool) (A M U : List Fc), hts E (mdn f t) = A ++ (M ++ U) → (∀ h ∈ A, lo ((hts E (mdn f t)).idxOf h) = true ∧ hi ((hts E (mdn f t)).idxOf h) = false) → (∀ h ∈ M, spAt E f t h = []) → (∀ h ∈ U, lo ((hts E (mdn f t)).idxOf h) = false ∧ hi ((hts E (mdn f t)).idxOf h) = true) →
      (bandsP E k op f t).countP (fun b => lo (rk E (mdn f t) b.1) && hi (rk E (mdn f t) b.2)) = if insAt E k op f t A = true then 1 else 0 := by
    intro lo hi A M U hs3 hA hM hU
    have hfl : flagsL (insAt E k op f t) [] (hts E (mdn f t)) = flagsL (insAt E k op f t) [] A ++ (flagsL (insAt E k op f t) A M ++ flagsL (insAt E k op f t) (A ++ M) U) := by
      rw [hs3, flagsL_append, flagsL_append]
      simp
    have h1 := Slab.count_bands (fun h => lo ((hts E (mdn f t)).idxOf h)) (fun h => hi ((hts E (mdn f t)).idxOf h)) (flagsL (insAt E k op f t) [] A) (flagsL (insAt E k op f t) A M) (flagsL (insAt E k op f t) (A ++ M) U) (0, 1)
      (fun x hx => hA x.2 (flagsL_mem hx).1)
      (fun x hx => by
        obtain ⟨_, B, C, h2, h3⟩ := flagsL_mem hx
        rw [h3, hlast]
        exact ins_bares E k op f t A B (fun h hh => hM h (by rw [h2]; simp [hh])))
      (fun x hx => hU x.2 (flagsL_mem hx).1)
      (by rw [← hfl, hlast]; exact hall)
    rw [← hfl, hlast] at h1
    rw [← h1]
    unfold bandsP bandsH
    rw [List.countP_map]
    apply List.countP_congr
    intro b hb
    obtain ⟨⟨_, g2⟩, ⟨_, g4⟩⟩ := bands_good b hb
    simp only [Function.comp_apply]
    rw [rk_edge g2, rk_edge g4]
  have hidx : ∀ i, i ≤ (hts E (mdn f t)).length → ∀ h ∈ hts E (mdn f t), ((hts E (mdn f t)).idxOf h < i ↔ h ∈ (hts E (mdn f t)).take i) := by
    intro i hi h hh
    have := idx_lt (l := hts E (mdn f t)) (A := (hts E (mdn f t)).take i) (B := (hts E (mdn f t)).drop i) (by simp) hnd hh
    rwa [List.length_take, Nat.min_eq_left hi] at this
  have hdrop : ∀ i, ∀ h ∈ (hts E (mdn f t)).drop i, h ∉ (hts E (mdn f t)).take i := by
    intro i h h1 h2
    have := hnd
    rw [← List.take_append_drop i (hts E (mdn f t)), List.nodup_append] at this
    exact this.2.2 h h2 h h1 rfl
  unfold slabOk
  rw [List.all_eq_true]
  intro i hi
  rw [List.mem_range] at hi
  simp only [Bool.and_eq_true, beq_iff_eq, Bool.or_eq_true, Bool.not_eq_true', List.isEmpty_eq_false_iff]
  refine ⟨?_, ?_⟩
  · unfold aboveP dueP
    rw [sum_act hact]
    have := hN (fun b => decide (rk E (mdn f t) b.1 ≤ i) && decide (i < rk E (mdn f t) b.2))
    unfold cntN at this
    rw [this, hH (fun n => decide (n ≤ i)) (fun n => decide (i < n)) ((hts E (mdn f t)).take (i + 1)) [] ((hts E (mdn f t)).drop (i + 1)) (by simp)
      (fun h hh => by
        have := (hidx (i + 1) (by omega) h (List.mem_of_mem_take hh)).2 hh
        simp; omega)
      (by simp)
      (fun h hh => by
        have := mt (hidx (i + 1) (by omega) h (List.mem_of_mem_drop hh)).1 (hdrop _ h hh)
        simp; omega)]
    cases insAt E k op f t ((hts E (mdn f t)).take (i + 1)) <;> rfl
  · by_cases hb : spAt E f t ((hts E (mdn f t)).getD i (0, 0)) = []
    · right
      unfold acrossP dueP
      rw [sum_act hact]
      have := hN (fun b => decide (rk E (mdn f t) b.1 < i) && decide (i < rk E (mdn f t) b.2))
      unfold cntN at this
      have hgi : (hts E (mdn f t)).getD i (0, 0) = (hts E (mdn f t))[i] := by simp [List.getD, hi]
      rw [hgi] at hb
      have htk : (hts E (mdn f t)).take (i + 1) = (hts E (mdn f t)).take i ++ [(hts E (mdn f t))[i]] := List.take_succ_eq_append_getElem hi
      rw [this, hH (fun n => decide (n < i)) (fun n => decide (i < n)) ((hts E (mdn f t)).take i) [(hts E (mdn f t))[i]] ((hts E (mdn f t)).drop (i + 1)) (by rw [← List.append_assoc, ← htk]; simp)
        (fun h hh => by
          have := (hidx i (by omega) h (List.mem_of_mem_take hh)).2 hh
          simp; omega)
        (fun h hh => by simp at hh; rw [hh]; exact hb)
        (fun h hh => by
          have := mt (hidx (i + 1) (by omega) h (List.mem_of_mem_drop hh)).1 (hdrop _ h hh)
          simp; omega)]
      rw [htk, ins_bare E k op f t _ _ hb]
      cases insAt E k op f t ((hts E (mdn f t)).take i) <;> rfl
    · exact .inl hb

end Go.Proofs.YtkjlkbgdkdcboaaGreatDoor.Acre

namespace Go.Proofs.YtkjlkbgdkdcboaaGreatDoor.Acre

/-- how a place lies to the line through an edge, in whole numbers -/
def offN (a b : Pt) (x y : Fc) : Int := (b.1 - a.1) * ((y.1 - a.2 * y.2) * x.2) - (b.2 - a.2) * ((x.1 - a.1 * x.2) * y.2)
theorem off_cast (e : Ed) (x y : Fc) (hu : upr e = false) (hx : 0 < x.2) (hy : 0 < y.2) : (offN e.1 e.2 x y : Rat) = (((e.2.1 - e.1.1) * x.2 * y.2 : Int) : Rat) * (v y - ly e (v x)) := by
  have h1 := ly_mul e (v x) hu
  have h2 := v_mul (f := x) (by omega)
  have h3 := v_mul (f := y) (by omega)
  unfold offN
  simp only [Rat.intCast_mul, Rat.intCast_sub] at *
  grind
theorem off_right {e : Ed} {x y : Fc} (h : e.1.1 < e.2.1) (hx : 0 < x.2) (hy : 0 < y.2) : (0 < offN e.1 e.2 x y ↔ ly e (v x) < v y) ∧ (offN e.1 e.2 x y < 0 ↔ v y < ly e (v x)) := by
  have hu : upr e = false := by unfold upr; simp; omega
  have hc := off_cast e x y hu hx hy
  have hk : 0 < (e.2.1 - e.1.1) * x.2 * y.2 := Int.mul_pos (Int.mul_pos (by omega) hx) hy
  have hk' := cpos hk
  have h0 : ((0 : Int) : Rat) = 0 := rfl
  have c1 : 0 < offN e.1 e.2 x y ↔ (0 : Rat) < (offN e.1 e.2 x y : Rat) := by rw [← h0]; exact Rat.intCast_lt_intCast.symm
  have c2 : offN e.1 e.2 x y < 0 ↔ (offN e.1 e.2 x y : Rat) < (0 : Rat) := by rw [← h0]; exact Rat.intCast_lt_intCast.symm
  rw [c1, c2, hc]
  generalize (((e.2.1 - e.1.1) * x.2 * y.2 : Int) : Rat) = K at hk'
  constructor
  · have := rlt (a := 0) (b := v y - ly e (v x)) hk'
    rw [Rat.mul_comm K]
    constructor
    · intro h; have := this.1 (by grind); grind
    · intro h; have := this.2 (by grind); grind
  · have := rlt (a := v y - ly e (v x)) (b := 0) hk'
    rw [Rat.mul_comm K]
    constructor
    · intro h; have := this.1 (by grind); grind
    · intro h; have := this.2 (by grind); grind
theorem off_left {e : Ed} {x y : Fc} (h : e.2.1 < e.1.1) (hx : 0 < x.2) (hy : 0 < y.2) : (0 < offN e.2 e.1 x y ↔ ly e (v x) < v y) ∧ (offN e.2 e.1 x y < 0 ↔ v y < ly e (v x)) := by
  have := off_right (e := (e.2, e.1)) (x := x) (y := y) h hx hy
  have hl : ly (e.2, e.1) (v x) = ly e (v x) := by
    refine turn_zero (e := (e.2, e.1)) (e' := e) (by unfold upr; simp; omega) (by unfold upr; simp; omega) (by unfold turn; grind) (z := (e.1.1 : Rat)) ?_ _
    have hu : upr (e.2, e.1) = false := by unfold upr; simp; omega
    have h1 := ly_mul (e.2, e.1) (e.1.1 : Rat) hu
    have h2 : ly e (e.1.1 : Rat) = (e.1.2 : Rat) := by unfold ly; grind
    have hk : ((e.1.1 - e.2.1 : Int) : Rat) ≠ 0 := cne (by omega)
    rw [h2]
    dsimp only at h1
    have : (ly (e.2, e.1) (e.1.1 : Rat) - (e.1.2 : Rat)) * ((e.1.1 - e.2.1 : Int) : Rat) = 0 := by
      simp only [Rat.intCast_sub] at *
      grind
    rcases Rat.mul_eq_zero.1 this with e | e
    · grind
    · exact absurd e hk
  rw [hl] at this
  exact this

theorem lt_v {a : Int} {f : Fc} (hf : 0 < f.2) : f.1 < a * f.2 ↔ v f < (a : Rat) := by
  have h := v_lt (f := f) (h := (a, 1)) hf (by show (0 : Int) < 1; omega)
  rw [v_one] at h
  unfold Lt at h
  simp only [Int.mul_one] at h
  exact h.symm
/-- an edge above the place -/
theorem abv_ly (e : Ed) (x y : Fc) (hx : 0 < x.2) (hy : 0 < y.2) : abv e x y = (inX e (v x) && decide (v y < ly e (v x))) := by
  have hsd : ∀ a b : Pt, sd a.1 a.2 b.1 b.2 x.1 x.2 y.1 y.2 = sgn (offN a b x y) := fun a b => rfl
  unfold abv
  by_cases h : e.2.1 < e.1.1
  · have e1 : decide (sgn (offN e.2 e.1 x y) < 0) = decide (v y < ly e (v x)) := decide_eq_decide.2 ((sgn_lt _).trans (off_left h hx hy).2)
    rw [if_pos h, hsd, e1, decide_eq_decide.2 (le_v hx), decide_eq_decide.2 (lt_v hx), ← Bool.decide_and]
    congr 1
    unfold inX
    have : ((e.2.1 : Int) : Rat) < ((e.1.1 : Int) : Rat) := Rat.intCast_lt_intCast.2 h
    apply decide_eq_decide.2
    grind
  · rw [if_neg h, hsd]
    by_cases h2 : e.1.1 = e.2.1
    · have e1 : inX e (v x) = false := by
        unfold inX
        rw [h2]
        apply decide_eq_false
        grind
      rw [e1, h2]
      have : (decide (e.2.1 * x.2 ≤ x.1) && decide (x.1 < e.2.1 * x.2)) = false := by
        rw [← Bool.decide_and]
        apply decide_eq_false
        omega
      rw [this]
      rfl
    · have h3 : e.1.1 < e.2.1 := by omega
      have e1 : decide (sgn (offN e.1 e.2 x y) < 0) = decide (v y < ly e (v x)) := decide_eq_decide.2 ((sgn_lt _).trans (off_right h3 hx hy).2)
      rw [e1, decide_eq_decide.2 (le_v hx), decide_eq_decide.2 (lt_v hx), ← Bool.decide_and]
      congr 1
      unfold inX
      have : ((e.1.1 : Int) : Rat) < ((e.2.1 : Int) : Rat) := Rat.intCast_lt_intCast.2 h3
      apply decide_eq_decide.2
      grind

/-- a place that is on no edge is not at the height of one that is there -/
theorem off_edge {e : Ed} {x y : Fc} (hx : 0 < x.2) (hy : 0 < y.2) (ho : isOnE e x y = false) (hi : inX e (v x) = true) : ly e (v x) ≠ v y := by
  intro hl
  have hu : upr e = false := by
    cases h : upr e with
    | false => rfl
    | true =>
      exfalso
      unfold upr at h
      simp at h
      unfold inX at hi
      rw [h, decide_eq_true_eq] at hi
      grind
  have hc := off_cast e x y hu hx hy
  have h0 : offN e.1 e.2 x y = 0 := by
    have : (offN e.1 e.2 x y : Rat) = 0 := by rw [hc, hl]; grind
    exact_mod_cast this
  have hsd : sd e.1.1 e.1.2 e.2.1 e.2.2 x.1 x.2 y.1 y.2 = 0 := by
    show sgn (offN e.1 e.2 x y) = 0
    rw [h0]; rfl
  unfold inX at hi
  rw [decide_eq_true_eq] at hi
  have hbx : btw x.1 x.2 e.1.1 e.2.1 = true := by
    rw [btw_v hx]; grind
  have hby : btw y.1 y.2 e.1.2 e.2.2 = true := by
    rw [btw_v hy, ← hl]
    have hd : e.2.1 - e.1.1 ≠ 0 := by unfold upr at hu; simp at hu; omega
    have hm := ly_mul e (v x) hu
    have hk := cne hd
    -- it is a mean of the two ends
    obtain ⟨s, hs⟩ : ∃ s : Rat, s = (v x - (e.1.1 : Rat)) / ((e.2.1 - e.1.1 : Int) : Rat) := ⟨_, rfl⟩
    have hs' : s * ((e.2.1 - e.1.1 : Int) : Rat) = v x - (e.1.1 : Rat) := by rw [hs]; exact Rat.div_mul_cancel hk
    have h01 : 0 ≤ s ∧ s ≤ 1 := by
      rcases hi with ⟨i1, i2⟩ | ⟨i1, i2⟩
      · have hp : (0 : Rat) < ((e.2.1 - e.1.1 : Int) : Rat) := by simp only [Rat.intCast_sub]; grind
        constructor
        · rcases Rat.le_total (a := 0) (b := s) with h | h
          · exact h
          · rcases Slab.lt_or_eq h with h | h
            · have := (rlt (a := s) (b := 0) hp).2 h; grind
            · rw [h]; exact Rat.le_refl
        · rcases Rat.le_total (a := s) (b := 1) with h | h
          · exact h
          · rcases Slab.lt_or_eq h with h | h
            · have := (rlt (a := 1) (b := s) hp).2 h
              simp only [Rat.intCast_sub] at *
              grind
            · rw [h]; exact Rat.le_refl
      · have hp : (0 : Rat) < -((e.2.1 - e.1.1 : Int) : Rat) := by simp only [Rat.intCast_sub]; grind
        constructor
        · rcases Rat.le_total (a := 0) (b := s) with h | h
          · exact h
          · rcases Slab.lt_or_eq h with h | h
            · have := (rlt (a := s) (b := 0) hp).2 h
              simp only [Rat.intCast_sub] at *
              grind
            · rw [h]; exact Rat.le_refl
        · rcases Rat.le_total (a := s) (b := 1) with h | h
          · exact h
          · rcases Slab.lt_or_eq h with h | h
            · have := (rlt (a := 1) (b := s) hp).2 h
              simp only [Rat.intCast_sub] at *
              grind
            · rw [h]; exact Rat.le_refl
    have hly : ly e (v x) = (e.1.2 : Rat) + s * ((e.2.2 : Rat) - (e.1.2 : Rat)) := by
      have : (ly e (v x) - ((e.1.2 : Rat) + s * ((e.2.2 : Rat) - (e.1.2 : Rat)))) * ((e.2.1 - e.1.1 : Int) : Rat) = 0 := by
        simp only [Rat.intCast_sub] at *
        grind
      rcases Rat.mul_eq_zero.1 this with e | e
      · grind
      · exact absurd e hk
    rw [hly]
    rcases Rat.le_total (a := (e.1.2 : Rat)) (b := (e.2.2 : Rat)) with h | h
    · left
      have q1 := Rat.mul_nonneg (a := s) (b := (e.2.2 : Rat) - (e.1.2 : Rat)) h01.1 (by grind)
      have q2 := Rat.mul_nonneg (a := 1 - s) (b := (e.2.2 : Rat) - (e.1.2 : Rat)) (by grind) (by grind)
      constructor <;> grind
    · right
      have q1 := Rat.mul_nonneg (a := s) (b := (e.1.2 : Rat) - (e.2.2 : Rat)) h01.1 (by grind)
      have q2 := Rat.mul_nonneg (a := 1 - s) (b := (e.1.2 : Rat) - (e.2.2 : Rat)) (by grind) (by grind)
      constructor <;> grind
  have : isOnE e x y = true := by
    unfold isOnE onE
    rw [hsd, hbx, hby]; rfl
  rw [this] at ho
  simp at ho

theorem range_countP (P : Ed → Bool) : ∀ (l : List Ed), (List.range l.length).countP (fun n => P (gd l n)) = l.countP P := by
  intro l
  have : (List.range l.length).map (gd l) = l := by
    apply List.ext_getElem
    · simp
    · intro i h1 h2
      have : i < l.length := by simpa using h1
      simp [gd, this]
  show (List.range l.length).countP (P ∘ gd l) = _
  rw [← List.countP_map, this]
theorem range_two (P : Ed → Bool) (l m : List Ed) (o : Bool) : (List.range (l ++ m).length).countP (fun n => P (gd (l ++ m) n) && (decide (l.length ≤ n) == o)) = if o = true then m.countP P else l.countP P := by
  rw [List.length_append, List.range_add, List.countP_append, List.countP_map]
  have h1 : (List.range l.length).countP (fun n => P (gd (l ++ m) n) && (decide (l.length ≤ n) == o)) = if o = true then 0 else l.countP P := by
    cases o with
    | true =>
      rw [if_pos rfl, List.countP_eq_zero]
      intro n hn
      have : ¬ l.length ≤ n := by have := List.mem_range.1 hn; omega
      simp [this]
    | false =>
      rw [if_neg (by simp), ← range_countP P l]
      apply List.countP_congr
      intro n hn
      have hn' := List.mem_range.1 hn
      have : ¬ l.length ≤ n := by omega
      simp [this, gd, List.getElem?_append, hn']
  have h2 : (List.range m.length).countP ((fun n => P (gd (l ++ m) n) && (decide (l.length ≤ n) == o)) ∘ fun x => l.length + x) = if o = true then m.countP P else 0 := by
    cases o with
    | true =>
      rw [if_pos rfl, ← range_countP P m]
      apply List.countP_congr
      intro n hn
      have : ¬ l.length + n < l.length := by omega
      simp [gd, List.getElem?_append, this]
    | false =>
      rw [if_neg (by simp), List.countP_eq_zero]
      intro n hn
      simp
  rw [h1, h2]
  cases o <;> simp

/-- edges that are there at X: an even number of them -/
theorem inX_even {R : List (List Pt)} (h : fieldOk R = true) (X : Rat) : (edgesOf R).countP (fun e => inX e X) % 2 = 0 := by
  have h1 := par_count (edgesOf R) (fun e => inX e X)
  have h2 := par_field R (fun p => decide ((p.1 : Rat) ≤ X)) (ring_of h)
  have e : (fun e : Ed => inX e X) = fun e : Ed => (decide ((e.1.1 : Rat) ≤ X) ^^ decide ((e.2.1 : Rat) ≤ X)) := by
    funext e
    unfold inX
    by_cases c1 : (e.1.1 : Rat) ≤ X <;> by_cases c2 : (e.2.1 : Rat) ≤ X <;> simp [c1, c2] <;> grind
  rw [e] at h1 ⊢
  rw [h2] at h1
  simp at h1
  omega
/-- below a place, and to its right -/
theorem bel_where {R : List (List Pt)} (hF : fieldOk R = true) {x y : Fc} (hx : 0 < x.2) (hy : 0 < y.2) (ho : ∀ e ∈ edgesOf R, isOnE e x y = false) :
    (edgesOf R).countP (fun e => inX e (v x) && decide (ly e (v x) < v y)) % 2 = 1 ↔ ((edgesOf R).map up).countP (fun e => isR e x y) % 2 = 1 := by
  rw [rays R x y hF hx hy ho]
  have h1 := inX_even hF (v x)
  have h2 : (edgesOf R).countP (fun e => inX e (v x)) = (edgesOf R).countP (fun e => inX e (v x) && decide (ly e (v x) < v y)) + (edgesOf R).countP (fun e => abv e x y) := by
    have : ∀ l : List Ed, (∀ e ∈ l, isOnE e x y = false) → l.countP (fun e => inX e (v x)) = l.countP (fun e => inX e (v x) && decide (ly e (v x) < v y)) + l.countP (fun e => abv e x y) := by
      intro l hl
      induction l with
      | nil => rfl
      | cons a r ih =>
        have ih := ih (fun e he => hl e (by simp [he]))
        have ha := hl a (by simp)
        simp only [List.countP_cons, ih, abv_ly a x y hx hy]
        cases hi : inX a (v x) with
        | false => simp
        | true =>
          have hne := off_edge hx hy ha hi
          by_cases c : ly a (v x) < v y
          · have c2 : ¬ v y < ly a (v x) := by grind
            simp [c, c2]; omega
          · have c2 : v y < ly a (v x) := by grind
            simp [c, c2]; omega
    exact this _ ho
  omega

theorem edges_next {r : List Pt} (h3 : 0 < r.length) : ∀ e ∈ edgesTo r r.length, ∃ e' ∈ edgesTo r r.length, e'.1 = e.2 := by
  intro e he
  unfold edgesTo at he ⊢
  obtain ⟨i, _, rfl⟩ := List.mem_map.1 he
  exact ⟨_, List.mem_map.2 ⟨(i + 1) % r.length, List.mem_range.2 (Nat.mod_lt _ h3), rfl⟩, rfl⟩
theorem getD_onGrid {r : List Pt} (h : r.all onGrid = true) (i : Nat) : onGrid (r.getD i (0, 0)) = true := by
  by_cases hi : i < r.length
  · have : r.getD i (0, 0) = r[i] := by simp [List.getD, hi]
    rw [this]
    exact List.all_eq_true.1 h r[i] (List.getElem_mem hi)
  · have : r.getD i (0, 0) = (0, 0) := by simp [List.getD, hi]
    rw [this]; rfl
theorem fld_of {R : List (List Pt)} (h : fieldOk R = true) : Fld (edgesOf R) := by
  have hr := ring_of h
  constructor
  · intro e he
    unfold edgesOf at he
    obtain ⟨r, hm, he⟩ := List.mem_flatMap.1 he
    have := hr r hm
    unfold ringOk at this
    simp only [Bool.and_eq_true] at this
    unfold edgesTo at he
    obtain ⟨i, _, rfl⟩ := List.mem_map.1 he
    exact ⟨getD_onGrid this.2 _, getD_onGrid this.2 _⟩
  · intro e he
    unfold edgesOf at he ⊢
    obtain ⟨r, hm, he⟩ := List.mem_flatMap.1 he
    have := hr r hm
    unfold ringOk at this
    simp only [Bool.and_eq_true, decide_eq_true_eq] at this
    obtain ⟨e', he', h'⟩ := edges_next (by omega) e he
    exact ⟨e', List.mem_flatMap.2 ⟨r, hm, he'⟩, h'⟩
theorem Fld.append {E E' : List Ed} (h : Fld E) (h' : Fld E') : Fld (E ++ E') := by
  constructor
  · intro e he
    rcases List.mem_append.1 he with he | he
    · exact h.grid e he
    · exact h'.grid e he
  · intro e he
    rcases List.mem_append.1 he with he | he
    · obtain ⟨e', k1, k2⟩ := h.next e he
      exact ⟨e', List.mem_append.2 (.inl k1), k2⟩
    · obtain ⟨e', k1, k2⟩ := h'.next e he
      exact ⟨e', List.mem_append.2 (.inr k1), k2⟩
/-- of two fields: an even number of either's -/
theorem even_two {R S : List (List Pt)} (hR : fieldOk R = true) (hS : fieldOk S = true) (X : Rat) (o : Bool) :
    (List.range (edgesOf R ++ edgesOf S).length).countP (fun n => inX (gd (edgesOf R ++ edgesOf S) n) X && (decide ((edgesOf R).length ≤ n) == o)) % 2 = 0 := by
  rw [range_two (fun e => inX e X)]
  cases o
  · simpa using inX_even hR X
  · simpa using inX_even hS X
/-- what the op keeps of a place on neither field -/
theorem keeps_where {R S : List (List Pt)} (hR : fieldOk R = true) (hS : fieldOk S = true) (op : Int) {x y : Fc} (hx : 0 < x.2) (hy : 0 < y.2) (hoR : ∀ e ∈ edgesOf R, isOnE e x y = false) (hoS : ∀ e ∈ edgesOf S, isOnE e x y = false) :
    keepsB op (bel (edgesOf R ++ edgesOf S) (edgesOf R).length (v x) (v y) false) (bel (edgesOf R ++ edgesOf S) (edgesOf R).length (v x) (v y) true) = opK op (((edgesOf R).map up).countP (fun e => isR e x y) % 2 == 1) (((edgesOf S).map up).countP (fun e => isR e x y) % 2 == 1) := by
  unfold keepsB bel
  rw [range_two (fun e => inX e (v x) && decide (ly e (v x) < v y)), range_two (fun e => inX e (v x) && decide (ly e (v x) < v y))]
  have b1 := bel_where hR hx hy hoR
  have b2 := bel_where hS hx hy hoS
  rw [if_neg (by simp), if_pos rfl]
  congr 1
  · rw [Bool.eq_iff_iff, beq_iff_eq, beq_iff_eq]; exact b1
  · rw [Bool.eq_iff_iff, beq_iff_eq, beq_iff_eq]; exact b2

end Go.Proofs.YtkjlkbgdkdcboaaGreatDoor.Acre

