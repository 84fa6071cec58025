import Derived.Test.YtkjlkbgdkdcboaaGreatDoorMaB

set_option linter.unusedSimpArgs false
set_option linter.unusedVariables false

set_option linter.unusedSimpArgs false
set_option linter.unusedVariables false

namespace Go.Proofs.YtkjlkbgdkdcboaaGreatDoor.Acre

/-- an edge from its left end on -/
def lft (e : Ed) : Ed := if e.2.1 < e.1.1 then (e.2, e.1) else e
def covS (y : Fc) (o : Bool) (a b : Int) : Bool := if o = true then !decide (y.1 * 1 < min a b * y.2) && decide (y.1 * 1 < max a b * y.2) else btw y.1 y.2 a b
/-- is the place on the edge? -/
def onS (x y : Fc) (o : Bool) (e : Ed) : Bool :=
  if upr (lft e) = true then decide (x = ((lft e).1.1, 1)) && covS y o (lft e).1.2 (lft e).2.2
  else (!o && decide (hgt (lft e) x = y)) && btw x.1 x.2 (lft e).1.1 (lft e).2.1
/-- is the edge above the place? -/
def abS (x y : Fc) (e : Ed) : Bool := !upr (lft e) && ((decide ((lft e).1.1 * x.2 ≤ x.1) && decide (x.1 < (lft e).2.1 * x.2)) && decide (Lt y (hgt (lft e) x)))
def atS (l : List Ed) (x y : Fc) (o : Bool) : Int := if l.any (onS x y o) = true then 1 else ((l.countP (abS x y) % 2 * 2 : Nat) : Int)
def lowS (y : Fc) (o : Bool) (h : Fc) : Bool := if o = true then !decide (Lt y h) else decide (Lt h y)
def inS (x y : Fc) (o : Bool) (p : Pc) : Bool := (!decide (Lt x p.1.1) && decide (Lt x p.1.2)) && (lowS y o (hgt p.2.1 x) && decide (Lt y (hgt p.2.2 x)))
/-- are the pieces right at the place? -/
def rightS (A B : List Ed) (op : Int) (ps : List Pc) (x y : Fc) (o : Bool) : Bool :=
  if atS A x y o = 1 ∨ atS B x y o = 1 then true
  else if opK op (decide (atS A x y o = 2)) (decide (atS B x y o = 2)) = true then decide (ps.countP (inS x y o) = 1) else decide (ps.countP (inS x y o) = 0)
/-- the heights at which a column is looked at -/
def colY (E : List Ed) (x : Fc) : List Fc := E.foldl (fun ys e => if upr e = true then insF (e.2.2, 1) (insF (e.1.2, 1) ys) else insF (hgt e x) ys) [(-1012, 1)]
def colS (A B : List Ed) (op : Int) (ps : List Pc) (x : Fc) : Bool := (colY (A ++ B) x).all (fun y => rightS A B op ps x y false && rightS A B op ps x y true)
def midF (f t : Fc) : Fc := low (f.1 * t.2 + t.1 * f.2) (2 * f.2 * t.2)
def crossR (e f : Ed) : Option Fc :=
  if (turn e.1 e.2 f.1 f.2 = 0 ∨ e.2.1 - e.1.1 = 0) ∨ f.2.1 - f.1.1 = 0 then none
  else if -12 * (crossX e.1.1 e.1.2 e.2.1 f.1.1 f.1.2 f.2.1 f.2.2 (turn e.1 e.2 f.1 f.2)).2 < (crossX e.1.1 e.1.2 e.2.1 f.1.1 f.1.2 f.2.1 f.2.2 (turn e.1 e.2 f.1 f.2)).1 ∧ (crossX e.1.1 e.1.2 e.2.1 f.1.1 f.1.2 f.2.1 f.2.2 (turn e.1 e.2 f.1 f.2)).1 < 12 * (crossX e.1.1 e.1.2 e.2.1 f.1.1 f.1.2 f.2.1 f.2.2 (turn e.1 e.2 f.1 f.2)).2 then
    some (crossX e.1.1 e.1.2 e.2.1 f.1.1 f.1.2 f.2.1 f.2.2 (turn e.1 e.2 f.1 f.2))
  else none
def putO (l : List Fc) : Option Fc → List Fc
  | some x => insF x l
  | none => l
/-- the cuts of one edge with those ahead of it -/
def cutRk (E : List Ed) (i k : Nat) (l : List Fc) : List Fc := (List.range k).foldl (fun l k => putO l (crossR (gd E i) (gd E k))) l
def cutRi (E : List Ed) (i : Nat) (l : List Fc) : List Fc := cutRk E i i (insF ((gd E i).1.1, 1) l)
def cutR (E : List Ed) (ps : List Pc) : List Fc := ps.foldl (fun l p => insF p.1.2 (insF p.1.1 l)) ((List.range E.length).foldl (fun l i => cutRi E i l) [(-12, 1), (12, 1)])
/-- **the document's look at pieces** -/
def rightP (A B : List Ed) (op : Int) (ps : List Pc) : Bool := (adj (cutR (A ++ B) ps)).all (fun s => colS A B op ps s.1 && colS A B op ps (midF s.1 s.2))

theorem lft_upr (e : Ed) : upr (lft e) = upr e := by
  unfold lft
  split
  · unfold upr
    dsimp only
    rw [Bool.eq_iff_iff]
    simp only [beq_iff_eq]
    exact eq_comm
  · rfl
theorem lft_le (e : Ed) : (lft e).1.1 ≤ (lft e).2.1 := by
  unfold lft
  split
  · dsimp only; omega
  · omega
theorem ly_swap (e : Ed) (X : Rat) (h : upr e = false) : ly (e.2, e.1) X = ly e X := by
  have hu : upr (e.2, e.1) = false := by unfold upr at *; simp at *; omega
  have h1 := ly_mul e X h
  have h2 := ly_mul (e.2, e.1) X hu
  have hne : e.2.1 - e.1.1 ≠ 0 := by unfold upr at h; simp at h; omega
  have hc := cne hne
  dsimp only at h2
  have k : (ly (e.2, e.1) X - ly e X) * ((e.2.1 - e.1.1 : Int) : Rat) = 0 := by
    push_cast at *
    grind
  rcases Rat.mul_eq_zero.1 k with h | h
  · grind
  · exact absurd h hc
theorem ly_lft (e : Ed) (X : Rat) (h : upr e = false) : ly (lft e) X = ly e X := by
  unfold lft
  split
  · exact ly_swap e X h
  · rfl
theorem v_hlft (e : Ed) (x : Fc) (h : upr e = false) (hx : 0 < x.2) : v (hgt (lft e) x) = ly e (v x) := by
  rw [v_hgt _ _ (by rw [lft_upr]; exact h) hx, ly_lft e _ h]
theorem inX_lft (e : Ed) (x : Fc) (h : upr e = false) (hx : 0 < x.2) : (decide ((lft e).1.1 * x.2 ≤ x.1) && decide (x.1 < (lft e).2.1 * x.2)) = inX e (v x) := by
  have e1 := le_v (a := (lft e).1.1) hx
  have e2 := lt_v (a := (lft e).2.1) hx
  have hne : e.1.1 ≠ e.2.1 := by unfold upr at h; simpa using h
  rw [Bool.eq_iff_iff]
  unfold inX
  simp only [Bool.and_eq_true, decide_eq_true_eq]
  rw [e1, e2]
  unfold lft
  split
  · rename_i hl
    have hc : (e.2.1 : Rat) < (e.1.1 : Rat) := by exact_mod_cast hl
    dsimp only
    constructor
    · intro h; exact .inr h
    · rintro (h | h)
      · grind
      · exact h
  · rename_i hl
    have hc : (e.1.1 : Rat) < (e.2.1 : Rat) := by exact_mod_cast (show e.1.1 < e.2.1 by omega)
    constructor
    · intro h; exact .inl h
    · rintro (h | h)
      · exact h
      · grind
theorem inX_upr (e : Ed) (X : Rat) (h : upr e = true) : inX e X = false := by
  unfold inX
  have : e.1.1 = e.2.1 := by unfold upr at h; simpa using h
  rw [this]
  simp
  grind
theorem abS_ly (e : Ed) (x y : Fc) (hx : 0 < x.2) (hy : 0 < y.2) : abS x y e = (inX e (v x) && decide (v y < ly e (v x))) := by
  unfold abS
  rw [lft_upr]
  cases hu : upr e
  · have hr := hgt_red (lft e) x (by rw [lft_upr]; exact hu) hx
    have e1 := v_lt hy hr.1
    rw [v_hlft e x hu hx] at e1
    rw [inX_lft e x hu hx, Bool.eq_iff_iff]
    simp only [Bool.and_eq_true, decide_eq_true_eq, Bool.not_false, true_and]
    rw [e1]
  · rw [inX_upr e _ hu]; simp

/-- a height just above, so that no line passes between -/
theorem just_above (Y : Rat) : ∀ (l : List Rat), ∃ Y', Y < Y' ∧ ∀ h ∈ l, h ≤ Y ∨ Y' < h
  | [] => ⟨Y + 1, by grind, by simp⟩
  | a :: r => by
    obtain ⟨Y', h1, h2⟩ := just_above Y r
    by_cases ha : a ≤ Y
    · exact ⟨Y', h1, fun h hh => by
        rcases List.mem_cons.1 hh with rfl | hh
        · exact .inl ha
        · exact h2 h hh⟩
    · have ha' : Y < a := by grind
      by_cases hb : Y' < a
      · exact ⟨Y', h1, fun h hh => by
          rcases List.mem_cons.1 hh with rfl | hh
          · exact .inr hb
          · exact h2 h hh⟩
      · refine ⟨(Y + a) / 2, by grind, fun h hh => ?_⟩
        rcases List.mem_cons.1 hh with rfl | hh
        · right; grind
        · rcases h2 h hh with c | c
          · exact .inl c
          · right; grind

/-- a place stands for a spot -/
structure Stands (E : List Ed) (x y : Fc) (o : Bool) (Y : Rat) : Prop where
  no : ∀ e ∈ E, inX e (v x) = true → ly e (v x) ≠ Y
  lo : ∀ e ∈ E, upr e = false → lowS y o (hgt e x) = decide (ly e (v x) < Y)
  hi : ∀ e ∈ E, upr e = false → decide (v y < ly e (v x)) = decide (Y < ly e (v x))

theorem stands {E : List Ed} {x y : Fc} (o : Bool) (hx : 0 < x.2) (hy : Red y) (hn : E.any (onS x y o) = false) : ∃ Y, Stands E x y o Y := by
  have hr : ∀ e : Ed, upr e = false → Red (hgt e x) := fun e hu => hgt_red e x hu hx
  cases o
  · refine ⟨v y, ?_, ?_, ?_⟩
    · intro e he hi heq
      have hu : upr e = false := by
        cases h : upr e
        · rfl
        · rw [inX_upr e _ h] at hi; simp at hi
      rw [List.any_eq_false] at hn
      apply hn e he
      unfold onS
      rw [lft_upr, hu]
      have e1 : hgt (lft e) x = y := v_eq (hgt_red _ x (by rw [lft_upr]; exact hu) hx) hy (by rw [v_hlft e x hu hx, heq])
      rw [← inX_lft e x hu hx] at hi
      simp only [Bool.and_eq_true, decide_eq_true_eq] at hi
      rw [e1]
      have : btw x.1 x.2 (lft e).1.1 (lft e).2.1 = true := by
        unfold btw
        simp only [decide_eq_true_eq]
        exact .inl ⟨hi.1, by omega⟩
      rw [this]
      simp
    · intro e he hu
      unfold lowS
      simp only [Bool.false_eq_true, if_false]
      have e1 := v_lt (hr e hu).1 hy.1
      rw [v_hgt e x hu hx] at e1
      rw [Bool.eq_iff_iff]
      simp only [decide_eq_true_eq]
      exact e1.symm
    · intro e he hu; rfl
  · obtain ⟨Y', h1, h2⟩ := just_above (v y) (E.map (fun e => ly e (v x)))
    have h3 : ∀ e ∈ E, ly e (v x) ≤ v y ∨ Y' < ly e (v x) := fun e he => h2 _ (List.mem_map.2 ⟨e, he, rfl⟩)
    refine ⟨Y', ?_, ?_, ?_⟩
    · intro e he hi heq
      rcases h3 e he with c | c <;> grind
    · intro e he hu
      unfold lowS
      simp only [if_true]
      have e1 := v_lt hy.1 (hr e hu).1
      rw [v_hgt e x hu hx] at e1
      rw [Bool.eq_iff_iff]
      simp only [Bool.not_eq_true', decide_eq_false_iff_not, decide_eq_true_eq]
      rw [← e1]
      rcases h3 e he with c | c
      · constructor
        · intro _; grind
        · intro _; grind
      · constructor
        · intro _; grind
        · intro _; grind
    · intro e he hu
      apply decide_eq_decide.2
      rcases h3 e he with c | c
      · constructor
        · intro _; grind
        · intro _; grind
      · constructor
        · intro _; grind
        · intro _; grind

/-- what is above by the document is odd just where what is below is -/
theorem at_two {E A : List Ed} {x y : Fc} {o : Bool} {Y : Rat} (hx : 0 < x.2) (hy : 0 < y.2) (S : Stands E x y o Y) (hA : ∀ e ∈ A, e ∈ E) (hn : A.any (onS x y o) = false) (hev : A.countP (fun e => inX e (v x)) % 2 = 0) :
    atS A x y o ≠ 1 ∧ decide (atS A x y o = 2) = (A.countP (fun e => inX e (v x) && decide (ly e (v x) < Y)) % 2 == 1) := by
  have hat : atS A x y o = ((A.countP (abS x y) % 2 * 2 : Nat) : Int) := by unfold atS; rw [hn]; simp
  have hsum : ∀ (l : List Ed), (∀ e ∈ l, e ∈ E) → l.countP (abS x y) + l.countP (fun e => inX e (v x) && decide (ly e (v x) < Y)) = l.countP (fun e => inX e (v x)) := by
    intro l
    induction l with
    | nil => intro _; rfl
    | cons a r ih =>
      intro h
      have ih := ih (fun e he => h e (by simp [he]))
      simp only [List.countP_cons]
      have haE := h a (by simp)
      have ha := abS_ly a x y hx hy
      rw [ha]
      cases hi : inX a (v x)
      · simp; omega
      · have hu : upr a = false := by
          cases h : upr a
          · rfl
          · rw [inX_upr a _ h] at hi; simp at hi
        rw [S.hi a haE hu]
        have hno := S.no a haE hi
        by_cases c : ly a (v x) < Y
        · have : ¬ Y < ly a (v x) := by grind
          simp [c, this]; omega
        · have : Y < ly a (v x) := by grind
          simp [c, this]; omega
  have := hsum A hA
  rw [hat]
  constructor
  · omega
  · rw [Bool.eq_iff_iff]
    simp only [decide_eq_true_eq, beq_iff_eq]
    omega

theorem in_cnt {E : List Ed} {ps : List Pc} {x y : Fc} {o : Bool} {Y : Rat} (hx : 0 < x.2) (hy : 0 < y.2) (S : Stands E x y o Y) (hg : ∀ p ∈ ps, Good E p) :
    ps.countP (inS x y o) = cntN (fun b => decide (ly b.1 (v x) < Y) && decide (Y < ly b.2 (v x))) ps (v x) := by
  unfold cntN
  apply List.countP_congr
  intro p hp
  have g := hg p hp
  unfold inS atX
  have e1 := v_lt hx g.from'.red.1
  have e2 := v_lt hx g.to'.red.1
  have e3 := v_lt hy (hgt_red p.2.2 x g.hi.2 hx).1
  have e4 := S.hi _ g.hi.1 g.hi.2
  rw [decide_eq_decide] at e4
  rw [v_hgt _ _ g.hi.2 hx, e4] at e3
  rw [S.lo _ g.lo.1 g.lo.2]
  simp only [Bool.and_eq_true, Bool.not_eq_true', decide_eq_false_iff_not, decide_eq_true_eq]
  rw [← e1, ← e2, ← e3, Rat.not_lt]
  exact and_comm

/-- **what the checker takes is right at every spot** -/
theorem spot_right {A B : List Ed} (F : Fld (A ++ B)) (op : Int) {ps : List Pc} (hg : ∀ p ∈ ps, Good (A ++ B) p) (hfill : filledP (A ++ B) A.length op ps = true)
    (hA : ∀ X, A.countP (fun e => inX e X) % 2 = 0) (hB : ∀ X, B.countP (fun e => inX e X) % 2 = 0) {x y : Fc} (o : Bool) (hx : 0 < x.2) (hy : Red y) : rightS A B op ps x y o = true := by
  unfold rightS
  split
  · rfl
  · rename_i hno
    rw [not_or] at hno
    have hnA : A.any (onS x y o) = false := by
      cases h : A.any (onS x y o)
      · rfl
      · exact absurd (by unfold atS; rw [h]; rfl) hno.1
    have hnB : B.any (onS x y o) = false := by
      cases h : B.any (onS x y o)
      · rfl
      · exact absurd (by unfold atS; rw [h]; rfl) hno.2
    obtain ⟨Y, S⟩ := stands (E := A ++ B) (x := x) (y := y) o hx hy (by rw [List.any_append, hnA, hnB]; rfl)
    have a2 := (at_two hx hy.1 S (fun e he => by simp [he]) hnA (hA _)).2
    have b2 := (at_two hx hy.1 S (fun e he => by simp [he]) hnB (hB _)).2
    have hr := fill_right F A.length op hg hfill (X := v x) (Y := Y) S.no
    rw [in_cnt hx hy.1 S hg, hr, a2, b2]
    have k1 : bel (A ++ B) A.length (v x) Y false = A.countP (fun e => inX e (v x) && decide (ly e (v x) < Y)) := by
      unfold bel; exact range_two (fun e => inX e (v x) && decide (ly e (v x) < Y)) A B false
    have k2 : bel (A ++ B) A.length (v x) Y true = B.countP (fun e => inX e (v x) && decide (ly e (v x) < Y)) := by
      unfold bel; exact range_two (fun e => inX e (v x) && decide (ly e (v x) < Y)) A B true
    rw [k1, k2]
    unfold keepsB
    cases opK op (A.countP (fun e => inX e (v x) && decide (ly e (v x) < Y)) % 2 == 1) (B.countP (fun e => inX e (v x) && decide (ly e (v x) < Y)) % 2 == 1) <;> simp

theorem insF_red {x : Fc} {l : List Fc} (hx : Red x) (hl : ∀ z ∈ l, Red z) : ∀ z ∈ insF x l, Red z := fun z hz => by
  rcases (mem_insF x z l).1 hz with rfl | h
  · exact hx
  · exact hl z h
theorem colY_red (E : List Ed) (x : Fc) (hx : 0 < x.2) : ∀ y ∈ colY E x, Red y := by
  unfold colY
  have : ∀ (E : List Ed) (l : List Fc), (∀ z ∈ l, Red z) → ∀ y ∈ E.foldl (fun ys e => if upr e = true then insF (e.2.2, 1) (insF (e.1.2, 1) ys) else insF (hgt e x) ys) l, Red y := by
    intro E
    induction E with
    | nil => intro l h; exact h
    | cons e r ih =>
      intro l h
      refine ih _ ?_
      dsimp only
      cases hu : upr e
      · simp only [Bool.false_eq_true, if_false]
        exact insF_red (hgt_red e x hu hx) h
      · simp only [if_true]
        exact insF_red (one_red _) (insF_red (one_red _) h)
  exact this E _ (fun z hz => by rw [List.mem_singleton.1 hz]; exact one_red _)
theorem col_right {A B : List Ed} (F : Fld (A ++ B)) (op : Int) {ps : List Pc} (hg : ∀ p ∈ ps, Good (A ++ B) p) (hfill : filledP (A ++ B) A.length op ps = true)
    (hA : ∀ X, A.countP (fun e => inX e X) % 2 = 0) (hB : ∀ X, B.countP (fun e => inX e X) % 2 = 0) {x : Fc} (hx : 0 < x.2) : colS A B op ps x = true := by
  unfold colS
  rw [List.all_eq_true]
  intro y hy
  have hr := colY_red _ x hx y hy
  rw [spot_right F op hg hfill hA hB false hx hr, spot_right F op hg hfill hA hB true hx hr]
  rfl

theorem crossR_lim {e f : Ed} {x : Fc} (h : crossR e f = some x) : Lim x := by
  unfold crossR at h
  split at h
  · simp at h
  · rename_i h0
    split at h
    · rename_i h1
      simp only [Option.some.injEq] at h
      have ht : turn e.1 e.2 f.1 f.2 ≠ 0 := fun c => h0 (.inl (.inl c))
      have hred : Red x := by rw [← h]; exact low_red _ _ ht
      rw [h] at h1
      refine ⟨hred, ?_, ?_⟩
      · have := (le_v (a := -12) hred.1).1 (by omega)
        simpa using this
      · have := (v_le (a := 12) hred.1).1 (by omega)
        simpa using this
    · simp at h
theorem cutRk_all (E : List Ed) (i : Nat) (P : Fc → Prop) (hc : ∀ k x, crossR (gd E i) (gd E k) = some x → P x) : ∀ (ks : List Nat) (l : List Fc), (∀ z ∈ l, P z) → ∀ z ∈ ks.foldl (fun l k => putO l (crossR (gd E i) (gd E k))) l, P z
  | [], l, h => h
  | k :: r, l, h => by
    refine cutRk_all E i P hc r _ ?_
    intro z hz
    dsimp only at hz
    cases hx : crossR (gd E i) (gd E k) with
    | none => rw [hx] at hz; exact h z hz
    | some x =>
      rw [hx] at hz
      rcases (mem_insF x z l).1 hz with rfl | hz
      · exact hc k _ hx
      · exact h z hz
theorem cutR_lim {E : List Ed} {ps : List Pc} (F : Fld E) (hg : ∀ p ∈ ps, Good E p) : ∀ x ∈ cutR E ps, Lim x := by
  have h0 : ∀ (is : List Nat) (l : List Fc), (∀ i ∈ is, i < E.length) → (∀ z ∈ l, Lim z) → ∀ z ∈ is.foldl (fun l i => cutRi E i l) l, Lim z := by
    intro is
    induction is with
    | nil => intro l _ h; exact h
    | cons i r ih =>
      intro l hi h
      refine ih _ (fun j hj => hi j (by simp [hj])) ?_
      refine cutRk_all E i Lim (fun k x hx => crossR_lim hx) _ _ ?_
      intro z hz
      rcases (mem_insF _ z l).1 hz with rfl | hz
      · exact lim_int (grid_x (F.grid _ (gd_mem (hi i (by simp)))).1)
      · exact h z hz
  have h1 : ∀ (qs : List Pc) (l : List Fc), (∀ p ∈ qs, Good E p) → (∀ z ∈ l, Lim z) → ∀ z ∈ qs.foldl (fun l p => insF p.1.2 (insF p.1.1 l)) l, Lim z := by
    intro qs
    induction qs with
    | nil => intro l _ h; exact h
    | cons p r ih =>
      intro l hp h
      refine ih _ (fun q hq => hp q (by simp [hq])) ?_
      intro z hz
      have g := hp p (by simp)
      rcases (mem_insF _ z _).1 hz with rfl | hz
      · exact g.to'
      · rcases (mem_insF _ z _).1 hz with rfl | hz
        · exact g.from'
        · exact h z hz
  unfold cutR
  refine h1 ps _ hg (h0 _ _ (fun i hi => List.mem_range.1 hi) ?_)
  intro z hz
  simp at hz
  rcases hz with rfl | rfl
  · exact lim_int (by omega)
  · exact lim_int (by omega)

theorem mid_pos {f t : Fc} (hf : 0 < f.2) (ht : 0 < t.2) : Red (midF f t) := by
  unfold midF
  have : 0 < 2 * f.2 * t.2 := Int.mul_pos (by omega) ht
  exact low_red _ _ (by omega)
/-- **what the checker takes is right for the document** -/
theorem fill_doc {A B : List Ed} (F : Fld (A ++ B)) (op : Int) {ps : List Pc} (hg : ∀ p ∈ ps, Good (A ++ B) p) (hfill : filledP (A ++ B) A.length op ps = true)
    (hA : ∀ X, A.countP (fun e => inX e X) % 2 = 0) (hB : ∀ X, B.countP (fun e => inX e X) % 2 = 0) : rightP A B op ps = true := by
  unfold rightP
  rw [List.all_eq_true]
  intro s hs
  obtain ⟨pre, post, e⟩ := adj_mem hs
  have hl := cutR_lim F hg
  have h1 := (hl s.1 (by rw [e]; simp)).red.1
  have h2 := (hl s.2 (by rw [e]; simp)).red.1
  rw [col_right F op hg hfill hA hB h1, col_right F op hg hfill hA hB (mid_pos h1 h2).1]
  rfl

end Go.Proofs.YtkjlkbgdkdcboaaGreatDoor.Acre

set_option linter.unusedSimpArgs false
set_option linter.unusedVariables false

namespace Go.Proofs.YtkjlkbgdkdcboaaGreatDoor.Acre

theorem adj_next {l : List Fc} (hs : l.Pairwise Lt) (hr : ∀ x ∈ l, Red x) {a b : Fc} (ha : a ∈ l) (hb : b ∈ l) (hab : v a < v b) (hno : ∀ z ∈ l, v z ≤ v a ∨ v b ≤ v z) : (a, b) ∈ adj l := by
  have hv := vsorted hs (fun x hx => (hr x hx).1)
  obtain ⟨s, hf⟩ := adj_some l hv (v a) a ha b hb Rat.le_refl hab
  have h1 := List.find?_some hf
  have h2 := List.mem_of_find?_eq_some hf
  simp only [Bool.and_eq_true, decide_eq_true_eq] at h1
  obtain ⟨pre, post, e⟩ := adj_mem h2
  have hs1 : s.1 ∈ l := by rw [e]; simp
  have hs2 : s.2 ∈ l := by rw [e]; simp
  have hcon : ∀ z ∈ l, v z ≤ v s.1 ∨ v s.2 ≤ v z := fun z hz => by
    rw [e] at hz hs
    exact consec hs (fun x hx => (hr x (by rw [e]; exact hx)).1) hz
  have e1 : s.1 = a := by
    refine v_eq (hr _ hs1) (hr _ ha) ?_
    rcases hcon a ha with h | h <;> grind
  have e2 : s.2 = b := by
    refine v_eq (hr _ hs2) (hr _ hb) ?_
    have c1 := hcon b hb
    have c2 := hno _ hs2
    rcases c1 with c1 | c1 <;> rcases c2 with c2 | c2 <;> grind
  rw [← e1, ← e2]
  exact h2

theorem putO_sorted {l : List Fc} (h : l.Pairwise Lt) (hr : ∀ z ∈ l, Red z) (x : Option Fc) (hx : ∀ z, x = some z → Red z) : (putO l x).Pairwise Lt := by
  cases x with
  | none => exact h
  | some z => exact insF_sorted z l (hx z rfl) hr h
theorem mem_putO {l : List Fc} {x : Option Fc} {z : Fc} : z ∈ putO l x ↔ x = some z ∨ z ∈ l := by
  cases x with
  | none => simp [putO]
  | some y => unfold putO; rw [mem_insF]; simp [eq_comm]

/-- a row that rises, of fractions in lowest terms, that has just these -/
structure Ris (l : List Fc) : Prop where
  so : l.Pairwise Lt
  re : ∀ z ∈ l, Red z
theorem Ris.ins {l : List Fc} (h : Ris l) {x : Fc} (hx : Red x) : Ris (insF x l) := ⟨insF_sorted x l hx h.re h.so, insF_red hx h.re⟩
theorem Ris.put {l : List Fc} (h : Ris l) {x : Option Fc} (hx : ∀ z, x = some z → Red z) : Ris (putO l x) := by
  cases x with
  | none => exact h
  | some z => exact h.ins (hx z rfl)
theorem cutRk_ris (E : List Ed) (i : Nat) : ∀ (ks : List Nat) (l : List Fc), Ris l → Ris (ks.foldl (fun l k => putO l (crossR (gd E i) (gd E k))) l) ∧ ∀ z, z ∈ ks.foldl (fun l k => putO l (crossR (gd E i) (gd E k))) l ↔ z ∈ l ∨ ∃ k ∈ ks, crossR (gd E i) (gd E k) = some z
  | [], l, h => ⟨h, fun z => by simp⟩
  | k :: r, l, h => by
    have h1 := h.put (x := crossR (gd E i) (gd E k)) (fun z hz => (crossR_lim hz).red)
    obtain ⟨a, b⟩ := cutRk_ris E i r _ h1
    refine ⟨a, fun z => ?_⟩
    rw [List.foldl_cons, b, mem_putO]
    constructor
    · rintro ((h | h) | ⟨k', hk', h⟩)
      · exact .inr ⟨k, by simp, h⟩
      · exact .inl h
      · exact .inr ⟨k', by simp [hk'], h⟩
    · rintro (h | ⟨k', hk', h⟩)
      · exact .inl (.inr h)
      · rcases List.mem_cons.1 hk' with rfl | hk'
        · exact .inl (.inl h)
        · exact .inr ⟨k', hk', h⟩
theorem cutRi_ris (E : List Ed) : ∀ (is : List Nat) (l : List Fc), Ris l → Ris (is.foldl (fun l i => cutRi E i l) l) ∧ ∀ z, z ∈ is.foldl (fun l i => cutRi E i l) l ↔ z ∈ l ∨ ∃ i ∈ is, z = ((gd E i).1.1, 1) ∨ ∃ k, k < i ∧ crossR (gd E i) (gd E k) = some z
  | [], l, h => ⟨h, fun z => by simp⟩
  | i :: r, l, h => by
    have h0 := h.ins (x := ((gd E i).1.1, 1)) (one_red _)
    obtain ⟨h1, m1⟩ := cutRk_ris E i (List.range i) _ h0
    obtain ⟨a, b⟩ := cutRi_ris E r (cutRi E i l) h1
    refine ⟨a, fun z => ?_⟩
    rw [List.foldl_cons, b]
    have m2 : z ∈ cutRi E i l ↔ _ := m1 z
    rw [m2, mem_insF]
    constructor
    · rintro (((h | h) | ⟨k, hk, h⟩) | ⟨i', hi', h⟩)
      · exact .inr ⟨i, by simp, .inl h⟩
      · exact .inl h
      · exact .inr ⟨i, by simp, .inr ⟨k, List.mem_range.1 hk, h⟩⟩
      · exact .inr ⟨i', by simp [hi'], h⟩
    · rintro (h | ⟨i', hi', h⟩)
      · exact .inl (.inl (.inr h))
      · rcases List.mem_cons.1 hi' with rfl | hi'
        · rcases h with h | ⟨k, hk, h⟩
          · exact .inl (.inl (.inl h))
          · exact .inl (.inr ⟨k, List.mem_range.2 hk, h⟩)
        · exact .inr ⟨i', hi', h⟩
theorem cutRp_ris {E : List Ed} : ∀ (ps : List Pc) (l : List Fc), (∀ p ∈ ps, Good E p) → Ris l → Ris (ps.foldl (fun l p => insF p.1.2 (insF p.1.1 l)) l) ∧ ∀ z, z ∈ ps.foldl (fun l p => insF p.1.2 (insF p.1.1 l)) l ↔ z ∈ l ∨ z ∈ endsP ps
  | [], l, _, h => ⟨h, fun z => by simp [endsP]⟩
  | p :: r, l, hg, h => by
    have g := hg p (by simp)
    obtain ⟨a, b⟩ := cutRp_ris r _ (fun q hq => hg q (by simp [hq])) ((h.ins g.from'.red).ins g.to'.red)
    refine ⟨a, fun z => ?_⟩
    rw [List.foldl_cons, b, mem_insF, mem_insF]
    have : z ∈ endsP (p :: r) ↔ z = p.1.1 ∨ z = p.1.2 ∨ z ∈ endsP r := by unfold endsP; simp [or_assoc]
    rw [this]
    constructor
    · rintro ((h | h | h) | h)
      · exact .inr (.inr (.inl h))
      · exact .inr (.inl h)
      · exact .inl h
      · exact .inr (.inr (.inr h))
    · rintro (h | h | h | h)
      · exact .inl (.inr (.inr h))
      · exact .inl (.inr (.inl h))
      · exact .inl (.inl h)
      · exact .inr h

theorem low_turn {e f : Ed} (he : upr e = true) (ht : turn e.1 e.2 f.1 f.2 ≠ 0) : crossX e.1.1 e.1.2 e.2.1 f.1.1 f.1.2 f.2.1 f.2.2 (turn e.1 e.2 f.1 f.2) = (e.1.1, 1) := by
  have h1 : e.1.1 = e.2.1 := by unfold upr at he; simpa using he
  unfold crossX
  have h2 : low (e.1.1 * turn e.1 e.2 f.1 f.2 + share e.1.1 e.1.2 f.1.1 f.1.2 f.2.1 f.2.2 * (e.2.1 - e.1.1)) (turn e.1 e.2 f.1 f.2) = low e.1.1 1 := by
    apply low_eq _ _ _ _ ht (by omega)
    rw [← h1]; grind
  rw [h2]
  exact v_eq (low_red _ _ (by omega)) (one_red _) (by
    have := v_low e.1.1 1 (by omega)
    rw [v_one]
    simpa using this)
/-- the document's cuts are the program's, and the two ends of the plane -/
theorem mem_cutR {E : List Ed} {ps : List Pc} (F : Fld E) (hg : ∀ p ∈ ps, Good E p) : Ris (cutR E ps) ∧ ∀ z, z ∈ cutsP E (endsP ps) → z ∈ cutR E ps := by
  have h0 : Ris [((-12 : Int), (1 : Int)), (12, 1)] := ⟨by simp [Lt], fun z hz => by
    simp at hz
    rcases hz with rfl | rfl
    · exact one_red _
    · exact one_red _⟩
  obtain ⟨h1, m1⟩ := cutRi_ris E (List.range E.length) _ h0
  obtain ⟨h2, m2⟩ := cutRp_ris ps _ hg h1
  refine ⟨h2, fun z hz => ?_⟩
  have m3 : z ∈ cutR E ps ↔ _ := m2 z
  rw [m3, m1]
  have hlim := cutsP_lim F (ends_lim hg) z hz
  unfold cutsP cutL at hz
  rw [mem_sortD] at hz
  rcases List.mem_append.1 hz with h | h
  · exact .inr h
  · left
    obtain ⟨i, hi, hz⟩ := List.mem_flatMap.1 h
    unfold cutI at hz
    rcases List.mem_cons.1 hz with hz | hz
    · exact .inr ⟨i, hi, .inl hz⟩
    · obtain ⟨k, hk, hc⟩ := List.mem_filterMap.1 hz
      rw [List.mem_range] at hi hk
      by_cases hue : upr (gd E i) = true
      · right
        refine ⟨i, List.mem_range.2 hi, .inl ?_⟩
        unfold crossOf at hc
        split at hc
        · simp at hc
        · rename_i ht
          split at hc
          · simp only [Option.some.injEq] at hc
            rw [← hc, low_turn hue ht]
          · simp at hc
      · by_cases huf : upr (gd E k) = true
        · right
          refine ⟨k, List.mem_range.2 (by omega), .inl ?_⟩
          unfold crossOf at hc
          split at hc
          · simp at hc
          · rename_i ht
            split at hc
            · simp only [Option.some.injEq] at hc
              rw [← hc]
              have ht' : turn (gd E k).1 (gd E k).2 (gd E i).1 (gd E i).2 ≠ 0 := by rw [turn_swap]; omega
              rw [← low_turn huf ht', ← crossX_swap _ _ _ _ ht']
            · simp at hc
        · by_cases hend : z = (-12, 1) ∨ z = (12, 1)
          · left
            rcases hend with rfl | rfl <;> simp
          · right
            refine ⟨i, List.mem_range.2 hi, .inr ⟨k, hk, ?_⟩⟩
            unfold crossOf at hc
            unfold crossR
            split at hc
            · simp at hc
            · rename_i ht
              split at hc
              · simp only [Option.some.injEq] at hc
                rw [hc]
                have u1 : (gd E i).2.1 - (gd E i).1.1 ≠ 0 := by unfold upr at hue; simp at hue; omega
                have u2 : (gd E k).2.1 - (gd E k).1.1 ≠ 0 := by unfold upr at huf; simp at huf; omega
                rw [if_neg (by rintro ((h | h) | h) <;> contradiction)]
                have n1 : z ≠ (-12, 1) := fun h => hend (.inl h)
                have n2 : z ≠ (12, 1) := fun h => hend (.inr h)
                have l1 : Lt (-12, 1) z := by
                  rw [← v_lt (by show (0 : Int) < 1; omega) hlim.red.1, v_one]
                  have hne : v z ≠ (((-12 : Int) : Int) : Rat) := fun h => n1 (v_eq hlim.red (one_red _) (by rw [h, v_one]))
                  have := hlim.lo
                  push_cast at hne ⊢
                  grind
                have l2 : Lt z (12, 1) := by
                  rw [← v_lt hlim.red.1 (by show (0 : Int) < 1; omega), v_one]
                  have hne : v z ≠ (((12 : Int) : Int) : Rat) := fun h => n2 (v_eq hlim.red (one_red _) (by rw [h, v_one]))
                  have := hlim.hi
                  push_cast at hne ⊢
                  grind
                rw [if_pos ⟨by unfold Lt at l1; dsimp only at l1; omega, by unfold Lt at l2; dsimp only at l2; omega⟩]
              · simp at hc

end Go.Proofs.YtkjlkbgdkdcboaaGreatDoor.Acre

set_option linter.unusedSimpArgs false
set_option linter.unusedVariables false

namespace Go.Proofs.YtkjlkbgdkdcboaaGreatDoor.Acre

theorem crossR_of {e f : Ed} {x : Fc} (h : crossR e f = some x) : crossOf e f = some x := by
  have hl := crossR_lim h
  unfold crossR at h
  unfold crossOf
  split at h
  · simp at h
  · rename_i h0
    have ht : turn e.1 e.2 f.1 f.2 ≠ 0 := fun c => h0 (.inl (.inl c))
    rw [if_neg ht]
    split at h
    · simp only [Option.some.injEq] at h
      rw [h]
      have : btw x.1 x.2 (-12) 12 = true := by
        rw [btw_v hl.red.1]
        left
        have := hl.lo
        have := hl.hi
        push_cast
        exact ⟨by grind, by grind⟩
      rw [this]; rfl
    · simp at h
theorem cutR_mem {E : List Ed} {ps : List Pc} (hg : ∀ p ∈ ps, Good E p) {z : Fc} (hz : z ∈ cutR E ps) : z = (-12, 1) ∨ z = (12, 1) ∨ z ∈ cutsP E (endsP ps) := by
  have h0 : Ris [((-12 : Int), (1 : Int)), (12, 1)] := ⟨by simp [Lt], fun z hz => by
    simp at hz
    rcases hz with rfl | rfl
    · exact one_red _
    · exact one_red _⟩
  obtain ⟨h1, m1⟩ := cutRi_ris E (List.range E.length) _ h0
  obtain ⟨h2, m2⟩ := cutRp_ris ps _ hg h1
  have m3 : z ∈ cutR E ps ↔ _ := m2 z
  rw [m3, m1] at hz
  rcases hz with (hz | ⟨i, hi, hz⟩) | hz
  · simp at hz
    rcases hz with h | h
    · exact .inl h
    · exact .inr (.inl h)
  · right; right
    unfold cutsP cutL
    rw [mem_sortD]
    refine List.mem_append.2 (.inr (List.mem_flatMap.2 ⟨i, hi, ?_⟩))
    unfold cutI
    rcases hz with h | ⟨k, hk, h⟩
    · rw [h]; simp
    · exact List.mem_cons.2 (.inr (List.mem_filterMap.2 ⟨k, List.mem_range.2 hk, crossR_of h⟩))
  · exact .inr (.inr (cuts_more hz))

theorem mid_between {f t : Fc} (hf : 0 < f.2) (ht : 0 < t.2) (hl : v f < v t) : v f < v (midF f t) ∧ v (midF f t) < v t := by
  have hd : 0 < 2 * f.2 * t.2 := Int.mul_pos (by omega) ht
  have h1 := v_low (f.1 * t.2 + t.1 * f.2) (2 * f.2 * t.2) (by omega)
  have h2 := v_mul (f := f) (by omega)
  have h3 := v_mul (f := t) (by omega)
  have hc : (0 : Rat) < ((f.2 * t.2 : Int) : Rat) := cpos (Int.mul_pos hf ht)
  have e : v (midF f t) = v (low (f.1 * t.2 + t.1 * f.2) (2 * f.2 * t.2)) := rfl
  rw [e]
  generalize v (low (f.1 * t.2 + t.1 * f.2) (2 * f.2 * t.2)) = m at *
  have k : (2 * m) * ((f.2 * t.2 : Int) : Rat) = (v f + v t) * ((f.2 * t.2 : Int) : Rat) := by
    push_cast at *
    grind
  have k2 : 2 * m = v f + v t := by
    have a := rlt (a := 2 * m) (b := v f + v t) hc
    have b := rlt (a := v f + v t) (b := 2 * m) hc
    rw [k] at a b
    grind
  grind

theorem mem_colY {E : List Ed} {x : Fc} {e : Ed} (he : e ∈ E) (hu : upr e = false) : hgt e x ∈ colY E x := by
  have keep : ∀ (E : List Ed) (l : List Fc) (z : Fc), z ∈ l → z ∈ E.foldl (fun ys e => if upr e = true then insF (e.2.2, 1) (insF (e.1.2, 1) ys) else insF (hgt e x) ys) l := by
    intro E
    induction E with
    | nil => intro l z h; exact h
    | cons a r ih =>
      intro l z h
      refine ih _ z ?_
      dsimp only
      split
      · exact (mem_insF _ _ _).2 (.inr ((mem_insF _ _ _).2 (.inr h)))
      · exact (mem_insF _ _ _).2 (.inr h)
  have : ∀ (E : List Ed) (l : List Fc), e ∈ E → hgt e x ∈ E.foldl (fun ys e => if upr e = true then insF (e.2.2, 1) (insF (e.1.2, 1) ys) else insF (hgt e x) ys) l := by
    intro E
    induction E with
    | nil => intro l h; simp at h
    | cons a r ih =>
      intro l h
      rcases List.mem_cons.1 h with rfl | h
      · refine keep r _ _ ?_
        dsimp only
        rw [hu]
        exact (mem_insF _ _ _).2 (.inl rfl)
      · exact ih _ h
  exact this E _ he

theorem idx_ord : ∀ {l : List Fc}, l.Pairwise Lt → ∀ {a b : Fc}, a ∈ l → b ∈ l → (l.idxOf a < l.idxOf b ↔ Lt a b)
  | [], _, a, b, ha, _ => by simp at ha
  | c :: r, h, a, b, ha, hb => by
    rw [List.pairwise_cons] at h
    by_cases ea : c = a
    · subst ea
      by_cases eb : c = b
      · subst eb
        simp [Lt.irrefl]
      · have hb' : b ∈ r := by
          rcases List.mem_cons.1 hb with h | h
          · exact absurd h.symm eb
          · exact h
        have := h.1 b hb'
        have n2 : (c == b) = false := by simpa using eb
        simp [List.idxOf_cons, n2, this]
    · have ha' : a ∈ r := by
        rcases List.mem_cons.1 ha with h | h
        · exact absurd h.symm ea
        · exact h
      by_cases eb : c = b
      · subst eb
        have := h.1 a ha'
        simp only [List.idxOf_cons_self]
        constructor
        · intro hh; omega
        · intro hh; exact absurd this (Lt.asymm hh)
      · have hb' : b ∈ r := by
          rcases List.mem_cons.1 hb with h | h
          · exact absurd h.symm eb
          · exact h
        rw [List.idxOf_cons, List.idxOf_cons]
        have n1 : (c == a) = false := by simpa using ea
        have n2 : (c == b) = false := by simpa using eb
        rw [n1, n2]
        simp only [cond_false]
        rw [← idx_ord h.2 ha' hb']
        omega

/-- **what is right for the document the checker takes** -/
theorem doc_fill {A B : List Ed} (F : Fld (A ++ B)) (op : Int) {ps : List Pc} (hg : ∀ p ∈ ps, Good (A ++ B) p) (h : rightP A B op ps = true)
    (hA : ∀ X, A.countP (fun e => inX e X) % 2 = 0) (hB : ∀ X, B.countP (fun e => inX e X) % 2 = 0) : filledP (A ++ B) A.length op ps = true := by
  have hm := ends_lim hg
  have hlim := cutsP_lim F hm
  have hsl := cutsP_sorted F hm
  obtain ⟨hris, hsub⟩ := mem_cutR F hg
  unfold filledP
  rw [List.all_eq_true]
  rintro ⟨f, t⟩ hs
  dsimp only
  obtain ⟨pre, post, hc⟩ := adj_mem hs
  dsimp only at hc
  have G := gap_of F hm hc
  have hft := (v_lt G.rf.1 G.rt.1).2 G.lt
  have hfm : f ∈ cutsP (A ++ B) (endsP ps) := by rw [hc]; simp
  have htm : t ∈ cutsP (A ++ B) (endsP ps) := by rw [hc]; simp
  have hcon : ∀ z ∈ cutsP (A ++ B) (endsP ps), v z ≤ v f ∨ v t ≤ v z := fun z hz => by
    have hs' := hsl
    rw [hc] at hs' hz
    exact consec hs' (fun x hx => (hlim x (by rw [hc]; exact hx)).red.1) hz
  have hadj : (f, t) ∈ adj (cutR (A ++ B) ps) := by
    refine adj_next hris.so hris.re (hsub f hfm) (hsub t htm) hft (fun z hz => ?_)
    rcases cutR_mem hg hz with rfl | rfl | hz
    · left
      rw [v_one]
      have := (hlim f hfm).lo
      push_cast
      grind
    · right
      rw [v_one]
      have := (hlim t htm).hi
      push_cast
      grind
    · exact hcon z hz
  have hcol : colS A B op ps (midF f t) = true := by
    unfold rightP at h
    rw [List.all_eq_true] at h
    have := h (f, t) hadj
    rw [Bool.and_eq_true] at this
    exact this.2
  obtain ⟨b1, b2⟩ := mid_between G.rf.1 G.rt.1 hft
  have hxr := mid_pos (f := f) (t := t) G.rf.1 G.rt.1
  generalize midF f t = x at *
  have hx := hxr.1
  have hact : ∀ p ∈ ps, act p f = if atX p (v x) = true then 1 else 0 := fun p hp => by
    have g := hg p hp
    have h1 := ends_mem hp
    exact act_at G.rf.1 g.from'.red.1 g.to'.red.1 g.lt (hcon _ (cuts_more h1.1)) (hcon _ (cuts_more h1.2)) (by grind) b2
  obtain ⟨m0, m1, m2⟩ := G.mid
  have hso := hts_sorted (E := A ++ B) m0
  have hnd := nodup_of_lt hso
  have hmem : ∀ e ∈ A ++ B, upr e = false → hgt e (mdn f t) ∈ hts (A ++ B) (mdn f t) := fun e he hu => mem_hts.2 ⟨e, he, hu, rfl⟩
  have hord : ∀ e ∈ A ++ B, ∀ e' ∈ A ++ B, upr e = false → upr e' = false → (ly e (v x) < ly e' (v x) ↔ rk (A ++ B) (mdn f t) e < rk (A ++ B) (mdn f t) e') := by
    intro e he e' he' hu hu'
    unfold rk
    rw [idx_ord hso (hmem e he hu) (hmem e' he' hu')]
    have r1 := hgt_red e (mdn f t) hu m0
    have r2 := hgt_red e' (mdn f t) hu' m0
    constructor
    · intro hl
      by_cases he1 : hgt e (mdn f t) = hgt e' (mdn f t)
      · have := G.same he he' hu hu' he1 (v x); grind
      · rcases Lt.total r1 r2 he1 with c | c
        · exact c
        · have := G.le he' he hu' hu c (X := v x) (by grind) b2; grind
    · intro hl
      have hle := G.le he he' hu hu' hl (X := v x) (by grind) b2
      by_cases hq : ly e (v x) = ly e' (v x)
      · exfalso
        have := G.cross e he e' he' hu hu' (v x) b1 b2 hq (v (mdn f t))
        rw [← v_hgt e _ hu m0, ← v_hgt e' _ hu' m0] at this
        rw [v_eq r1 r2 this] at hl
        exact Lt.irrefl _ hl
      · grind
  have look : ∀ i (hi : i < (hts (A ++ B) (mdn f t)).length) (o : Bool), (o = false → spAt (A ++ B) f t ((hts (A ++ B) (mdn f t))[i]) = []) →
      ps.countP (fun p => (decide (if o = true then rk (A ++ B) (mdn f t) p.2.1 ≤ i else rk (A ++ B) (mdn f t) p.2.1 < i) && decide (i < rk (A ++ B) (mdn f t) p.2.2)) && atX p (v x)) = if insAt (A ++ B) A.length op f t ((hts (A ++ B) (mdn f t)).take (i + 1)) = true then 1 else 0 := by
    intro i hi o hb
    obtain ⟨q1, q2, q3⟩ := rep_spec (List.getElem_mem hi)
    generalize rep (A ++ B) (mdn f t) (hts (A ++ B) (mdn f t))[i] = ei at *
    have hrki : rk (A ++ B) (mdn f t) ei = i := by
      unfold rk
      rw [q3]
      exact hnd.idxOf_getElem i hi
    have hyr := hgt_red ei x q2 hx
    have hright : rightS A B op ps x (hgt ei x) o = true := by
      unfold colS at hcol
      rw [List.all_eq_true] at hcol
      have := hcol _ (mem_colY q1 q2)
      rw [Bool.and_eq_true] at this
      cases o
      · exact this.1
      · exact this.2
    have hvy := v_hgt ei x q2 hx
    have hlow : ∀ e ∈ A ++ B, upr e = false → (lowS (hgt ei x) o (hgt e x) = true ↔ (if o = true then rk (A ++ B) (mdn f t) e ≤ i else rk (A ++ B) (mdn f t) e < i)) := by
      intro e he hu
      have hr := hgt_red e x hu hx
      have c1 := v_lt hyr.1 hr.1
      have c2 := v_lt hr.1 hyr.1
      rw [hvy, v_hgt e x hu hx, hord _ q1 _ he q2 hu, hrki] at c1
      rw [hvy, v_hgt e x hu hx, hord _ he _ q1 hu q2, hrki] at c2
      unfold lowS
      cases o
      · simp only [Bool.false_eq_true, if_false, decide_eq_true_eq]
        exact c2.symm
      · simp only [if_true, Bool.not_eq_true', decide_eq_false_iff_not]
        rw [← c1]
        omega
    have hup : ∀ e ∈ A ++ B, upr e = false → (Lt (hgt ei x) (hgt e x) ↔ i < rk (A ++ B) (mdn f t) e) := by
      intro e he hu
      have hr := hgt_red e x hu hx
      have c1 := v_lt hyr.1 hr.1
      rw [hvy, v_hgt e x hu hx, hord _ q1 _ he q2 hu, hrki] at c1
      exact c1.symm
    have hbare : o = false → ∀ e ∈ A ++ B, inX e (v x) = true → rk (A ++ B) (mdn f t) e ≠ i := by
      intro ho e he hin hr
      have hu : upr e = false := by
        cases h : upr e
        · rfl
        · rw [inX_upr e _ h] at hin; simp at hin
      have hsp := G.spans he (X := v x) (by grind) b2
      rw [hin, hu] at hsp
      simp only [Bool.not_false, Bool.true_and] at hsp
      obtain ⟨n, hn, hge⟩ := mem_gd he
      have hh : hgt e (mdn f t) = (hts (A ++ B) (mdn f t))[i] := by
        have hm := hmem e he hu
        have := List.getElem_idxOf (List.idxOf_lt_length_iff.2 hm)
        rw [← this]
        congr 1
      have : n ∈ spAt (A ++ B) f t ((hts (A ++ B) (mdn f t))[i]) := spAt_mem.2 ⟨hn, by rw [hge]; exact hu, by rw [hge]; exact hh, by rw [hge]; exact hsp⟩
      rw [hb ho] at this
      simp at this
    have hnoon : ∀ e ∈ A ++ B, onS x (hgt ei x) o e = false := by
      intro e he
      unfold onS
      rw [lft_upr]
      cases hu : upr e
      · simp only [Bool.false_eq_true, if_false]
        cases ho : o
        · cases hon : ((!false && decide (hgt (lft e) x = hgt ei x)) && btw x.1 x.2 (lft e).1.1 (lft e).2.1)
          · rfl
          · exfalso
            simp only [Bool.not_false, Bool.true_and, Bool.and_eq_true, decide_eq_true_eq] at hon
            obtain ⟨o1, o2⟩ := hon
            have hlye : ly e (v x) = ly ei (v x) := by rw [← v_hlft e x hu hx, o1, hvy]
            have hin : inX e (v x) = true := by
              rw [← inX_lft e x hu hx]
              rw [btw_ref _ _ _ _ (by omega) (lft_le e)] at o2
              simp only [decide_eq_true_eq] at o2
              simp only [Bool.and_eq_true, decide_eq_true_eq]
              refine ⟨o2.1, ?_⟩
              have hend : ((lft e).2.1 : Rat) ≤ v f ∨ v t ≤ ((lft e).2.1 : Rat) := by
                have ge := G.ends e he
                unfold lft
                split
                · exact ge.1
                · exact ge.2
              rw [lt_v hx]
              have := (v_le (a := (lft e).2.1) hx).1 o2.2
              rcases hend with c | c <;> grind
            refine hbare ho e he hin ?_
            have n1 := hord e he ei q1 hu q2
            have n2 := hord ei q1 e he q2 hu
            rw [hlye, hrki] at n1 n2
            have c1 : ¬ rk (A ++ B) (mdn f t) e < i := fun c => by have := n1.2 c; grind
            have c2 : ¬ i < rk (A ++ B) (mdn f t) e := fun c => by have := n2.2 c; grind
            omega
        · rfl
      · simp only [if_true]
        have : x ≠ ((lft e).1.1, 1) := by
          intro hxe
          have hve : v x = ((lft e).1.1 : Rat) := by rw [hxe, v_one]
          have hend : ((lft e).1.1 : Rat) ≤ v f ∨ v t ≤ ((lft e).1.1 : Rat) := by
            have ge := G.ends e he
            unfold lft
            split
            · exact ge.2
            · exact ge.1
          rw [← hve] at hend
          rcases hend with c | c <;> grind
        simp [this]
    have hnA : A.any (onS x (hgt ei x) o) = false := by
      rw [List.any_eq_false]
      intro e he
      rw [hnoon e (by simp [he])]; simp
    have hnB : B.any (onS x (hgt ei x) o) = false := by
      rw [List.any_eq_false]
      intro e he
      rw [hnoon e (by simp [he])]; simp
    obtain ⟨Y, S⟩ := stands (E := A ++ B) (x := x) (y := hgt ei x) o hx hyr (by rw [List.any_append, hnA, hnB]; rfl)
    obtain ⟨a1, a2⟩ := at_two hx hyr.1 S (fun e he => by simp [he]) hnA (hA _)
    obtain ⟨c1, c2⟩ := at_two hx hyr.1 S (fun e he => by simp [he]) hnB (hB _)
    unfold rightS at hright
    rw [if_neg (by rintro (c | c) <;> contradiction), a2, c2] at hright
    have hbel : ∀ o', cntB (A ++ B) A.length f t ((hts (A ++ B) (mdn f t)).take (i + 1)) o' = bel (A ++ B) A.length (v x) Y o' := by
      intro o'
      unfold cntB bel
      have e1 : ((hts (A ++ B) (mdn f t)).take (i + 1)).flatMap (spAt (A ++ B) f t) = ((hts (A ++ B) (mdn f t)).take (i + 1)).flatMap (fun h => (List.range (A ++ B).length).filter (fun n => (!upr (gd (A ++ B) n) && spn (gd (A ++ B) n) f t) && hgt (gd (A ++ B) n) (mdn f t) == h)) := by
        congr 1
        funext h
        exact spAt_eq (A ++ B) f t h
      rw [e1, countP_flat _ _ _ (fun n => hgt (gd (A ++ B) n) (mdn f t)) _ (List.Nodup.sublist (List.take_sublist _ _) hnd)]
      apply List.countP_congr
      intro n hn
      have hn' : gd (A ++ B) n ∈ A ++ B := gd_mem (List.mem_range.1 hn)
      have hsp := G.spans hn' (X := v x) (by grind) b2
      rw [hsp]
      cases hin : inX (gd (A ++ B) n) (v x)
      · simp
      · have hu : upr (gd (A ++ B) n) = false := by rw [hin] at hsp; simp at hsp; exact hsp.1
        have k1 := hlow _ hn' hu
        rw [S.lo _ hn' hu] at k1
        have k2 := idx_lt (l := hts (A ++ B) (mdn f t)) (A := (hts (A ++ B) (mdn f t)).take (i + 1)) (B := (hts (A ++ B) (mdn f t)).drop (i + 1)) (by simp) hnd (hmem _ hn' hu)
        rw [List.length_take, Nat.min_eq_left (by omega)] at k2
        have k3 : decide (hgt (gd (A ++ B) n) (mdn f t) ∈ (hts (A ++ B) (mdn f t)).take (i + 1)) = decide (ly (gd (A ++ B) n) (v x) < Y) := by
          rw [Bool.eq_iff_iff, k1, decide_eq_true_eq, ← k2]
          show rk (A ++ B) (mdn f t) (gd (A ++ B) n) < i + 1 ↔ _
          cases o
          · have := hbare rfl _ hn' hin
            simp only [Bool.false_eq_true, if_false]
            omega
          · simp only [if_true]
            omega
        rw [k3]
    have hins : insAt (A ++ B) A.length op f t ((hts (A ++ B) (mdn f t)).take (i + 1)) = opK op (A.countP (fun e => inX e (v x) && decide (ly e (v x) < Y)) % 2 == 1) (B.countP (fun e => inX e (v x) && decide (ly e (v x) < Y)) % 2 == 1) := by
      unfold insAt keepsB
      rw [hbel, hbel]
      have k1 : bel (A ++ B) A.length (v x) Y false = A.countP (fun e => inX e (v x) && decide (ly e (v x) < Y)) := by
        unfold bel; exact range_two (fun e => inX e (v x) && decide (ly e (v x) < Y)) A B false
      have k2 : bel (A ++ B) A.length (v x) Y true = B.countP (fun e => inX e (v x) && decide (ly e (v x) < Y)) := by
        unfold bel; exact range_two (fun e => inX e (v x) && decide (ly e (v x) < Y)) A B true
      rw [k1, k2]
    have hcnt : ps.countP (inS x (hgt ei x) o) = ps.countP (fun p => (decide (if o = true then rk (A ++ B) (mdn f t) p.2.1 ≤ i else rk (A ++ B) (mdn f t) p.2.1 < i) && decide (i < rk (A ++ B) (mdn f t) p.2.2)) && atX p (v x)) := by
      apply List.countP_congr
      intro p hp
      have g := hg p hp
      have l1 := hlow _ g.lo.1 g.lo.2
      have l2 := hup _ g.hi.1 g.hi.2
      have e1 := v_lt hx g.from'.red.1
      have e2 := v_lt hx g.to'.red.1
      unfold inS atX
      simp only [Bool.and_eq_true, Bool.not_eq_true', decide_eq_false_iff_not, decide_eq_true_eq]
      rw [l1, l2, ← e1, ← e2, Rat.not_lt]
      exact and_comm
    rw [← hcnt, hins]
    revert hright
    cases opK op (A.countP (fun e => inX e (v x) && decide (ly e (v x) < Y)) % 2 == 1) (B.countP (fun e => inX e (v x) && decide (ly e (v x) < Y)) % 2 == 1)
    · simp
    · simp
  unfold slabOk
  rw [List.all_eq_true]
  intro i hi
  rw [List.mem_range] at hi
  simp only [Bool.and_eq_true, beq_iff_eq, Bool.or_eq_true, Bool.not_eq_true', List.isEmpty_eq_false_iff]
  have hgi : (hts (A ++ B) (mdn f t)).getD i (0, 0) = (hts (A ++ B) (mdn f t))[i] := by simp [List.getD, hi]
  refine ⟨?_, ?_⟩
  · unfold aboveP dueP
    rw [sum_act hact]
    have := look i hi true (by simp)
    simp only [if_true] at this
    rw [this]
    cases insAt (A ++ B) A.length op f t ((hts (A ++ B) (mdn f t)).take (i + 1)) <;> rfl
  · by_cases hb : spAt (A ++ B) f t ((hts (A ++ B) (mdn f t)).getD i (0, 0)) = []
    · right
      unfold acrossP dueP
      rw [sum_act hact]
      rw [hgi] at hb
      have := look i hi false (fun _ => hb)
      simp only [Bool.false_eq_true, if_false] at this
      rw [this]
      cases insAt (A ++ B) A.length op f t ((hts (A ++ B) (mdn f t)).take (i + 1)) <;> rfl
    · exact .inl hb

end Go.Proofs.YtkjlkbgdkdcboaaGreatDoor.Acre

