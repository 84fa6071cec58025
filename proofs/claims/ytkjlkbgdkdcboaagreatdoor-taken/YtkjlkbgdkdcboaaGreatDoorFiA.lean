import Derived.Test.YtkjlkbgdkdcboaaGreatDoorScA
import Derived.Test.YtkjlkbgdkdcboaaGreatDoorFaA
import Derived.Test.YtkjlkbgdkdcboaaGreatDoorWrA
import Derived.Test.YtkjlkbgdkdcboaaGreatDoorPtA

set_option linter.unusedSimpArgs false
set_option linter.unusedVariables false

set_option linter.unusedSimpArgs false
set_option linter.unusedVariables false

namespace Go.Proofs.YtkjlkbgdkdcboaaGreatDoor

def minI (a b : Int) : Int := if b < a then b else a
def farN (n : Int × Int) : Int := farP n.2 n.1 NW
def farF (a : Int) (l : List (Int × Int)) : Int := l.foldl (fun x n => minI x (farN n)) a
theorem ffFar_eq (far : Int) (r : List Sp) : ffFar far r = farF far (r.flatMap fl) := by
  induction r generalizing far with
  | nil => rfl
  | cons p t ih =>
    have : ffFar far (p :: t) = ffFar (ffPt far p) t := rfl
    rw [this, ih]
    rfl

/-- places that rise, from lo on and below hi -/
def IncN : Int → List (Int × Int) → Int → Prop
  | lo, [], hi => lo ≤ hi
  | lo, n :: t, hi => lo ≤ n.2 ∧ IncN (n.2 + 1) t hi
def IncR : Int → List (List (Int × Int)) → Int → Prop
  | lo, [], hi => lo ≤ hi
  | lo, l :: t, hi => ∃ mid, IncN lo l mid ∧ IncR mid t hi
theorem IncN.le {lo hi : Int} {l : List (Int × Int)} (h : IncN lo l hi) : lo ≤ hi := by
  induction l generalizing lo with
  | nil => exact h
  | cons n t ih => have := ih h.2; have := h.1; omega
theorem IncR.le {lo hi : Int} {L : List (List (Int × Int))} (h : IncR lo L hi) : lo ≤ hi := by
  induction L generalizing lo with
  | nil => exact h
  | cons l t ih => obtain ⟨mid, h1, h2⟩ := h; have := h1.le; have := ih h2; omega
theorem IncN.down {lo lo' hi : Int} {l : List (Int × Int)} (h : IncN lo l hi) (hl : lo' ≤ lo) : IncN lo' l hi := by
  cases l with
  | nil => exact Int.le_trans hl h
  | cons n t => exact ⟨Int.le_trans hl h.1, h.2⟩
theorem IncN.append {lo mid hi : Int} {a b : List (Int × Int)} (h : IncN lo a mid) (k : IncN mid b hi) : IncN lo (a ++ b) hi := by
  induction a generalizing lo with
  | nil => exact k.down h
  | cons n t ih => exact ⟨h.1, ih h.2⟩
theorem IncN.get {lo hi : Int} {l : List (Int × Int)} (h : IncN lo l hi) {k : Nat} (hk : k < l.length) : lo + k ≤ l[k].2 ∧ l[k].2 < hi := by
  induction l generalizing lo k with
  | nil => simp at hk
  | cons n t ih =>
    cases k with
    | zero => have := h.1; have := IncN.le h.2; simp; omega
    | succ k =>
      have := ih h.2 (k := k) (by simpa using hk)
      have := h.1
      simp only [List.getElem_cons_succ]
      omega

theorem farN_le (n : Int × Int) : farN n = NW ∨ farN n = n.2 := by unfold farN farP; split <;> simp
theorem farF_cons (a : Int) (n : Int × Int) (t : List (Int × Int)) : farF a (n :: t) = farF (minI a (farN n)) t := rfl
theorem farF_min (a : Int) (l : List (Int × Int)) (ha : a ≤ NW) : farF a l = minI a (farF NW l) ∧ farF NW l ≤ NW := by
  induction l generalizing a with
  | nil => constructor <;> simp [farF, minI] <;> omega
  | cons n t ih =>
    have hb : minI a (farN n) ≤ NW := by unfold minI; split <;> omega
    have hc : minI NW (farN n) ≤ NW := by unfold minI; split <;> omega
    have h1 := (ih (minI a (farN n)) hb).1
    have h2 := (ih (minI NW (farN n)) hc)
    rw [farF_cons, farF_cons, h1, h2.1]
    have h3 := (ih NW (Int.le_refl _)).2
    refine ⟨?_, ?_⟩
    · simp only [minI]; repeat' split
      all_goals omega
    · simp only [minI] at hc ⊢; repeat' split
      all_goals omega
theorem farF_low {lo hi : Int} {l : List (Int × Int)} (h : IncN lo l hi) (hh : hi ≤ NW) : lo ≤ farF NW l ∧ (farF NW l = NW ∨ farF NW l < hi) := by
  induction l generalizing lo with
  | nil => exact ⟨by have := h; simp only [IncN] at this; simp [farF]; omega, Or.inl rfl⟩
  | cons n t ih =>
    have h1 := ih h.2
    have h0 := h.1
    have hle := IncN.le h.2
    have hn := farN_le n
    rw [farF_cons, (farF_min (minI NW (farN n)) t (by unfold minI; split <;> omega)).1]
    simp only [minI]
    repeat' split
    all_goals omega

theorem wNums_const {hi : Int} : ∀ (l : List (Int × Int)) (k : Nat) (p : Int × Int), p.1 ≠ 0 → IncN (p.2 + 1) l hi → wNums k l p = p
  | [], _, _, _, _ => rfl
  | n :: t, k, p, hp, h => by
    have h1 := h.1
    have e1 : wSide n p = p := by unfold wSide; rw [if_neg (by omega)]
    have e2 : wMany k n p = p := by unfold wMany; rw [if_neg (by omega)]
    rw [wNums, e1, e2]
    exact wNums_const t (k + 1) p hp (h.2.down (by omega))

def manyF (k : Nat) (l : List (Int × Int)) : Int := if k ≤ 12 then ((l[12 - k]?).map (fun n => n.2)).getD NW else NW
def end2 (f m : Int) : Int × Int := if minI f m = NW then (0, 0) else if minI f m = f then (5, f) else (3, m)

theorem manyF_cons {k : Nat} {n : Int × Int} {t : List (Int × Int)} (hk : k ≠ 12) : manyF k (n :: t) = manyF (k + 1) t := by
  unfold manyF
  by_cases h : k ≤ 12
  · rw [if_pos h, if_pos (by omega)]
    have e : 12 - k = (12 - (k + 1)) + 1 := by omega
    rw [e, List.getElem?_cons_succ]
  · rw [if_neg h, if_neg (by omega)]
theorem manyF_low {lo hi : Int} {l : List (Int × Int)} (h : IncN lo l hi) (hh : hi ≤ NW) (k : Nat) : lo ≤ manyF k l ∧ (manyF k l = NW ∨ manyF k l < hi) := by
  have hle := h.le
  unfold manyF
  split
  · by_cases hk : 12 - k < l.length
    · rw [List.getElem?_eq_getElem hk]
      have := h.get hk
      simp only [Option.map_some, Option.getD_some]
      omega
    · rw [List.getElem?_eq_none (by omega)]
      exact ⟨by simp; omega, Or.inl rfl⟩
  · exact ⟨by omega, Or.inl rfl⟩

theorem wNums_zero {hi : Int} (hh : hi ≤ NW) : ∀ (l : List (Int × Int)) (k : Nat) (lo : Int), IncN lo l hi → wNums k l (0, 0) = end2 (farF NW l) (manyF k l)
  | [], k, lo, h => by
    have : manyF k [] = NW := by unfold manyF; split <;> simp
    rw [this]; simp [wNums, end2, farF, minI]
  | n :: t, k, lo, h => by
    have h0 := h.1
    have hle := IncN.le h.2
    have hf := farF_low h.2 hh
    have hm := manyF_low h.2 hh (k + 1)
    have hmk := manyF_low h hh k
    rw [wNums, farF_cons, (farF_min (minI NW (farN n)) t (by unfold minI; split <;> omega)).1]
    by_cases hfar : 12 < n.1 ∨ n.1 < -12
    · have e1 : wSide n (0, 0) = (5, n.2) := by unfold wSide; rw [if_pos ⟨hfar, Or.inl rfl⟩]
      have e2 : wMany k n (5, n.2) = (5, n.2) := by unfold wMany; rw [if_neg (by simp)]
      have e3 : farN n = n.2 := by unfold farN farP; rw [if_neg (by omega)]
      rw [e1, e2, wNums_const t (k + 1) (5, n.2) (by simp) h.2, e3]
      have e4 : n.2 ≤ manyF k (n :: t) := by
        by_cases hk : k = 12
        · subst hk; simp [manyF]
        · rw [manyF_cons hk]; omega
      unfold end2
      simp only [minI]
      repeat' split
      all_goals first | rfl | omega
    · have e1 : wSide n (0, 0) = (0, 0) := by unfold wSide; rw [if_neg (by intro x; exact hfar x.1)]
      have e3 : farN n = NW := by unfold farN farP; rw [if_pos (by omega)]
      have e4 : minI (minI NW (farN n)) (farF NW t) = farF NW t := by
        rw [e3]
        have := (farF_min NW t (Int.le_refl _)).2
        simp only [minI]
        repeat' split
        all_goals omega
      rw [e1, e4]
      by_cases hk : k = 12
      · subst hk
        have e2 : wMany 12 n (0, 0) = (3, n.2) := by unfold wMany; rw [if_pos ⟨rfl, Or.inl rfl⟩]
        have e5 : manyF 12 (n :: t) = n.2 := by simp [manyF]
        rw [e2, wNums_const t (12 + 1) (3, n.2) (by simp) h.2, e5]
        unfold end2
        simp only [minI]
        repeat' split
        all_goals first | rfl | omega
      · have e2 : wMany k n (0, 0) = (0, 0) := by unfold wMany; rw [if_neg (by intro x; exact hk x.1)]
        rw [e2, manyF_cons hk]
        exact wNums_zero hh t (k + 1) _ h.2

/-- faults that were found lie ahead of lo -/
structure Ahead (s : FF) (lo : Int) : Prop where
  a : s.far = NW ∨ s.far < lo
  b : s.many = NW ∨ s.many < lo
  c : s.few = NW ∨ s.few < lo

theorem leastP2 (f a b : Int) : leastP f [a, b] = minI (minI f a) b := rfl
theorem leastP1 (f a : Int) : leastP f [a] = minI f a := rfl
theorem ffEnd_eq (s : FF) : ffEnd s = if minI (minI s.far s.many) s.few = NW then (0, 0) else if minI (minI s.far s.many) s.few = s.far then (5, minI (minI s.far s.many) s.few) else if minI (minI s.far s.many) s.few = s.many then (3, minI (minI s.far s.many) s.few) else (4, minI (minI s.far s.many) s.few) := rfl

theorem spots_len (r : List Sp) : (r.flatMap fl).length = 2 * r.length := by
  induction r with
  | nil => rfl
  | cons p t ih => simp only [List.flatMap_cons, List.length_append, ih, fl, List.length_cons, List.length_nil]; omega
theorem flat_head {r : List Sp} (h : r ≠ []) : ((r.flatMap fl).headD (0, 0)).2 = (r.headD default).1.1 := by
  cases r with
  | nil => exact absurd rfl h
  | cons p t => rfl
theorem spots_get : ∀ (r : List Sp) (k : Nat) (h : k < r.length), (r.flatMap fl)[2 * k]? = some (r[k].1.2, r[k].1.1)
  | p :: t, 0, _ => rfl
  | p :: t, k + 1, h => by
    have e : 2 * (k + 1) = 2 * k + 1 + 1 := by omega
    have := spots_get t k (by simpa using h)
    simp only [List.flatMap_cons, fl, List.cons_append, List.nil_append, e, List.getElem?_cons_succ, List.getElem_cons_succ] at this ⊢
    exact this

theorem minI_spec (a b : Int) : (minI a b = a ∧ a ≤ b) ∨ (minI a b = b ∧ b < a) := by
  unfold minI; split <;> omega
theorem ffEnd_far {s : FF} (h1 : s.far ≤ s.many) (h2 : s.far ≤ s.few) (h3 : s.far ≠ NW) : ffEnd s = (5, s.far) := by
  have e : minI (minI s.far s.many) s.few = s.far := by
    have := minI_spec s.far s.many; have := minI_spec (minI s.far s.many) s.few; omega
  rw [ffEnd_eq, e, if_neg h3, if_pos rfl]
theorem ffEnd_many {s : FF} (h1 : s.many < s.far) (h2 : s.many ≤ s.few) (h3 : s.many ≠ NW) : ffEnd s = (3, s.many) := by
  have e : minI (minI s.far s.many) s.few = s.many := by
    have := minI_spec s.far s.many; have := minI_spec (minI s.far s.many) s.few; omega
  rw [ffEnd_eq, e, if_neg h3, if_neg (by omega), if_pos rfl]
theorem ffEnd_few {s : FF} (h1 : s.few < s.far) (h2 : s.few < s.many) (h3 : s.few ≠ NW) : ffEnd s = (4, s.few) := by
  have e : minI (minI s.far s.many) s.few = s.few := by
    have := minI_spec s.far s.many; have := minI_spec (minI s.far s.many) s.few; omega
  rw [ffEnd_eq, e, if_neg h3, if_neg (by omega), if_neg (by omega)]
theorem ffEnd_none {s : FF} (h1 : s.far = NW) (h2 : s.many = NW) (h3 : s.few = NW) : ffEnd s = (0, 0) := by
  rw [ffEnd_eq, h1, h2, h3]; simp [minI]
theorem end2_far {f m : Int} (h1 : f ≤ m) (h2 : f ≠ NW) : end2 f m = (5, f) := by
  have e : minI f m = f := by have := minI_spec f m; omega
  rw [end2, e, if_neg h2, if_pos rfl]
theorem end2_many {f m : Int} (h1 : m < f) (h2 : m ≠ NW) : end2 f m = (3, m) := by
  have e : minI f m = m := by have := minI_spec f m; omega
  rw [end2, e, if_neg h2, if_neg (by omega)]
theorem end2_none {f m : Int} (h1 : f = NW) (h2 : m = NW) : end2 f m = (0, 0) := by
  rw [end2, h1, h2]; simp [minI]

set_option maxHeartbeats 8000000 in
/-- one ring -/
theorem ring_first (i : Nat) (s : FF) (r : List Sp) (lo hi : Int) (hr : r ≠ []) (hI : IncN lo (r.flatMap fl) hi) (hh : hi ≤ NW) (hA : Ahead s lo) :
    wNums 0 (r.flatMap fl) (wHead i (r.flatMap fl) (ffEnd s)) = ffEnd (ffRing i s r) ∧ Ahead (ffRing i s r) hi := by
  obtain ⟨a1, a2, a3⟩ := hA
  obtain ⟨l, hl⟩ : ∃ l, r.flatMap fl = l := ⟨_, rfl⟩
  have hlen := spots_len r
  have hhd := flat_head hr
  have hpos : 0 < r.length := List.length_pos_iff.2 hr
  have hF : ffRing i s r = ⟨farF s.far l, (if 6 < r.length then minI (if 2 ≤ i then minI s.many (l.headD (0, 0)).2 else s.many) (manyF 0 l) else (if 2 ≤ i then minI s.many (l.headD (0, 0)).2 else s.many)), (if r.length < 3 then minI s.few (l.headD (0, 0)).2 else s.few)⟩ := by
    unfold ffRing ffMany2 ffMany1 ffFew
    rw [ffFar_eq, hl, ← hhd, hl]
    congr 1
    by_cases h6 : 6 < r.length
    · rw [if_pos h6, if_pos h6]
      have e : manyF 0 l = (r.getD 6 default).1.1 := by
        have g := spots_get r 6 h6
        rw [hl] at g
        have g' : l[12]? = some (r[6].1.2, r[6].1.1) := g
        unfold manyF
        rw [if_pos (by omega)]
        simp only [Nat.sub_zero]
        rw [g', List.getD_eq_getElem?_getD, List.getElem?_eq_getElem h6]
        rfl
      rw [e]; rfl
    · rw [if_neg h6, if_neg h6]; rfl
  have hM6 : ¬ 6 < r.length → manyF 0 l = NW := fun h6 => by
    unfold manyF
    rw [if_pos (by omega), List.getElem?_eq_none (by rw [← hl, hlen]; omega)]
    rfl
  rw [hF]
  rw [hl] at hI hlen ⊢
  clear hF hhd hl
  cases l with
  | nil => simp at hlen; omega
  | cons n t =>
    have h0 := hI.1
    have hle := IncN.le hI.2
    have hM := manyF_low hI hh 0
    have hM1 := manyF_low hI.2 hh 1
    rw [← manyF_cons (n := n) (by decide)] at hM1
    have hG := farF_low hI hh
    have hGt := farF_low hI.2 hh
    have hGc : farF NW (n :: t) = minI (minI NW (farN n)) (farF NW t) := (farF_min (minI NW (farN n)) t (by have := minI_spec NW (farN n); omega)).1
    have hfn := farN_le n
    have hff := (farF_min s.far (n :: t) (by omega)).1
    have m1 := minI_spec NW (farN n)
    have m2 := minI_spec (minI NW (farN n)) (farF NW t)
    rw [← hGc] at m2
    rw [hff]
    simp only [List.headD_cons]
    have hz := wNums_zero hh (n :: t) 0 lo hI
    generalize farF NW (n :: t) = G at *
    generalize manyF 0 (n :: t) = M at *
    have m3 := minI_spec s.far G
    have m4 := minI_spec s.many n.2
    have m5 := minI_spec s.few n.2
    -- the new many, the new few
    obtain ⟨F', hF'⟩ : ∃ F', minI s.far G = F' := ⟨_, rfl⟩
    obtain ⟨M1, hM1e⟩ : ∃ M1, (if 2 ≤ i then minI s.many n.2 else s.many) = M1 := ⟨_, rfl⟩
    obtain ⟨M', hM'e⟩ : ∃ M', (if 6 < r.length then minI M1 M else M1) = M' := ⟨_, rfl⟩
    obtain ⟨W', hW'e⟩ : ∃ W', (if r.length < 3 then minI s.few n.2 else s.few) = W' := ⟨_, rfl⟩
    rw [hM1e, hM'e, hW'e, hF']
    rw [hF'] at m3
    have q1 : (2 ≤ i ∧ M1 = minI s.many n.2) ∨ (¬ 2 ≤ i ∧ M1 = s.many) := by
      by_cases h : 2 ≤ i
      · rw [if_pos h] at hM1e; exact Or.inl ⟨h, hM1e.symm⟩
      · rw [if_neg h] at hM1e; exact Or.inr ⟨h, hM1e.symm⟩
    have m6 := minI_spec M1 M
    have q2 : (6 < r.length ∧ M' = minI M1 M) ∨ (¬ 6 < r.length ∧ M = NW ∧ M' = M1) := by
      by_cases h : 6 < r.length
      · rw [if_pos h] at hM'e; exact Or.inl ⟨h, hM'e.symm⟩
      · rw [if_neg h] at hM'e; exact Or.inr ⟨h, hM6 h, hM'e.symm⟩
    have q3 : (r.length < 3 ∧ W' = minI s.few n.2) ∨ (¬ r.length < 3 ∧ W' = s.few) := by
      by_cases h : r.length < 3
      · rw [if_pos h] at hW'e; exact Or.inl ⟨h, hW'e.symm⟩
      · rw [if_neg h] at hW'e; exact Or.inr ⟨h, hW'e.symm⟩
    clear hM1e hM'e hW'e hF' hff hM6 hGc
    have hlen2 : (n :: t).length = 2 * r.length := hlen
    have hw : wHead i (n :: t) (ffEnd s) = if (2 ≤ i ∨ (n :: t).length < 6) ∧ ((ffEnd s).1 = 0 ∨ n.2 < (ffEnd s).2) then ((if 2 ≤ i then 3 else 4 : Int), n.2) else ffEnd s := rfl
    have g1 : lo ≤ G := hG.1
    have g2 : n.2 + 1 ≤ M := hM1.1
    have A1 : F' = NW ∨ F' < hi := by clear q1 q2 q3 m1 m2 m4 m5 m6 a2 a3 hM hM1 hGt hfn; omega
    have A3 : W' = NW ∨ W' < hi := by clear q1 q2 m1 m2 m3 m4 m6 a1 a2 hM hM1 hGt hfn hG; omega
    have A2' : M1 = NW ∨ M1 < hi := by clear q2 q3 m1 m2 m3 m5 m6 a1 a3 hM hM1 hGt hfn hG; omega
    have A2 : M' = NW ∨ M' < hi := by clear q1 q3 m1 m2 m3 m4 m5 a1 a2 a3 hM1 hGt hfn hG; omega
    refine ⟨?_, ⟨A1, A2, A3⟩⟩
    clear A1 A2 A2' A3
    rw [hw]
    clear hw hlen
    by_cases c0 : s.far = NW ∧ s.many = NW ∧ s.few = NW
    · obtain ⟨c1, c2, c3⟩ := c0
      rw [ffEnd_none c1 c2 c3]
      have eF : F' = G := by clear q1 q2 q3 m1 m2 m4 m5 m6 a1 a2 a3 hM hM1 hGt hfn; omega
      have eW : (r.length < 3 ∧ W' = n.2) ∨ (¬ r.length < 3 ∧ W' = NW) := by clear q1 q2 m1 m2 m3 m4 m6 a1 a2 a3 hM hM1 hGt hfn hG; omega
      have eM1 : (2 ≤ i ∧ M1 = n.2) ∨ (¬ 2 ≤ i ∧ M1 = NW) := by clear q2 q3 m1 m2 m3 m5 m6 a1 a2 a3 hM hM1 hGt hfn hG eW; omega
      have eM : (2 ≤ i ∧ M' = n.2) ∨ (¬ 2 ≤ i ∧ M' = M) := by clear q1 q3 m1 m2 m3 m4 m5 a1 a2 a3 hM1 hGt hfn hG eW; omega
      have hGn : (farN n = n.2 ∧ G = n.2) ∨ (farN n = NW ∧ n.2 + 1 ≤ G) := by clear q1 q2 q3 m3 m4 m5 m6 a1 a2 a3 hM hM1 eW eM eM1 hG; omega
      have hMN : M ≤ NW := by omega
      have hGN : G ≤ NW := by omega
      subst eF
      clear q1 q2 q3 m1 m2 m3 m4 m5 m6 a1 a2 a3 hM hM1 hGt hfn hG eM1
      by_cases hhd : 2 ≤ i ∨ r.length < 3
      · rw [if_pos ⟨by omega, Or.inl rfl⟩]
        obtain ⟨e, he⟩ : ∃ e : Int, (if 2 ≤ i then 3 else 4 : Int) = e := ⟨_, rfl⟩
        rw [he]
        have he2 : (2 ≤ i ∧ e = 3) ∨ (¬ 2 ≤ i ∧ e = 4) := by
          by_cases h : 2 ≤ i
          · rw [if_pos h] at he; exact Or.inl ⟨h, he.symm⟩
          · rw [if_neg h] at he; exact Or.inr ⟨h, he.symm⟩
        rw [wNums]
        have e2 : ∀ p : Int × Int, wMany 0 n p = p := fun p => by unfold wMany; rw [if_neg (by omega)]
        rw [e2]
        by_cases hfar : 12 < n.1 ∨ n.1 < -12
        · have e1 : wSide n (e, n.2) = (5, n.2) := by unfold wSide; rw [if_pos ⟨hfar, Or.inr (Or.inr ⟨rfl, by simp only; omega⟩)⟩]
          have e3 : farN n = n.2 := by unfold farN farP; rw [if_neg (by omega)]
          rw [e1, wNums_const t (0 + 1) (5, n.2) (by simp) hI.2, ffEnd_far (by simp only; omega) (by simp only; omega) (by simp only; omega)]
          simp only [Prod.mk.injEq, true_and]
          omega
        · have e1 : wSide n (e, n.2) = (e, n.2) := by unfold wSide; rw [if_neg (fun h => hfar h.1)]
          have e3 : farN n = NW := by unfold farN farP; rw [if_pos (by omega)]
          rw [e1, wNums_const t (0 + 1) (e, n.2) (by simp only; omega) hI.2]
          rcases he2 with ⟨hi2, rfl⟩ | ⟨hi2, rfl⟩
          · rw [ffEnd_many (by simp only; omega) (by simp only; omega) (by simp only; omega)]
            simp only [Prod.mk.injEq, true_and]
            omega
          · rw [ffEnd_few (by simp only; omega) (by simp only; omega) (by simp only; omega)]
            simp only [Prod.mk.injEq, true_and]
            omega
      · rw [if_neg (by omega), hz]
        by_cases d1 : F' = NW ∧ M = NW
        · rw [end2_none d1.1 d1.2, ffEnd_none (by simp only; omega) (by simp only; omega) (by simp only; omega)]
        · by_cases d2 : F' ≤ M
          · rw [end2_far d2 (by omega), ffEnd_far (by simp only; omega) (by simp only; omega) (by simp only; omega)]
          · rw [end2_many (by omega) (by omega), ffEnd_many (by simp only; omega) (by simp only; omega) (by simp only; omega)]
            simp only [Prod.mk.injEq, true_and]
            omega
    · have Q1 : F' = s.far ∨ (lo ≤ F' ∧ F' < s.far) := by clear q1 q2 q3 m1 m2 m4 m5 m6 a1 a2 a3 hM hM1 hGt hfn hG; omega
      have Q3 : W' = s.few ∨ (lo ≤ W' ∧ W' < s.few) := by clear q1 q2 m1 m2 m3 m4 m6 a1 a2 a3 hM hM1 hGt hfn hG; omega
      have Q2' : M1 = s.many ∨ (lo ≤ M1 ∧ M1 < s.many) := by clear q2 q3 m1 m2 m3 m5 m6 a1 a2 a3 hM hM1 hGt hfn hG; omega
      have Q2 : M' = s.many ∨ (lo ≤ M' ∧ M' < s.many) := by clear q1 q3 m1 m2 m3 m4 m5 a1 a2 a3 hM hM1 hGt hfn hG Q1 Q3; omega
      clear q1 q2 q3 m1 m2 m3 m4 m5 m6 hM hM1 hGt hfn hG Q2' hz
      by_cases d1 : s.far ≤ s.many ∧ s.far ≤ s.few
      · have e0 := ffEnd_far d1.1 d1.2 (by omega)
        rw [e0, if_neg (by simp only; omega), wNums_const (n :: t) 0 (5, s.far) (by simp) (hI.down (by simp only; omega)), ffEnd_far (by simp only; omega) (by simp only; omega) (by simp only; omega)]
        simp only [Prod.mk.injEq, true_and]
        omega
      · by_cases d2 : s.many < s.far ∧ s.many ≤ s.few
        · have e0 := ffEnd_many d2.1 d2.2 (by omega)
          rw [e0, if_neg (by simp only; omega), wNums_const (n :: t) 0 (3, s.many) (by simp) (hI.down (by simp only; omega)), ffEnd_many (by simp only; omega) (by simp only; omega) (by simp only; omega)]
          simp only [Prod.mk.injEq, true_and]
          omega
        · have e0 := ffEnd_few (s := s) (by omega) (by omega) (by omega)
          rw [e0, if_neg (by simp only; omega), wNums_const (n :: t) 0 (4, s.few) (by simp) (hI.down (by simp only; omega)), ffEnd_few (by simp only; omega) (by simp only; omega) (by simp only; omega)]
          simp only [Prod.mk.injEq, true_and]
          omega

theorem rings_first {hi : Int} (hh : hi ≤ NW) : ∀ (R : List (List Sp)) (i : Nat) (s : FF) (lo : Int), (∀ r ∈ R, r ≠ []) → IncR lo (R.map (fun r => r.flatMap fl)) hi → Ahead s lo → wRings i (R.map (fun r => r.flatMap fl)) (ffEnd s) = ffEnd (ffAll i s R)
  | [], _, _, _, _, _, _ => rfl
  | r :: R, i, s, lo, hne, hI, hA => by
    obtain ⟨mid, h1, h2⟩ := hI
    have hm := IncR.le h2
    obtain ⟨q1, q2⟩ := ring_first i s r lo mid (hne r (List.mem_cons_self)) h1 (by omega) hA
    simp only [List.map_cons, wRings, ffAll]
    rw [q1]
    exact rings_first hh R (i + 1) _ mid (fun x hx => hne x (List.mem_cons_of_mem _ hx)) h2 q2

end Go.Proofs.YtkjlkbgdkdcboaaGreatDoor

namespace Go.Proofs.YtkjlkbgdkdcboaaGreatDoor

theorem num_inc {s : ByteArray} {i : Nat} (hi : i ≤ s.size) (hb : (numP s i (-1)).2.2 = -1) : i < (numP s i (-1)).2.1 ∧ (numP s i (-1)).2.1 ≤ s.size := by
  rcases num_sim s i init rfl hi with ⟨h, _⟩ | ⟨_, h2, h3, _⟩
  · rw [hb] at h; omega
  · exact ⟨h3, h2⟩
theorem num_bad {s : ByteArray} {i : Nat} (hi : i ≤ s.size) : (numP s i (-1)).2.2 = -1 ∨ 0 ≤ (numP s i (-1)).2.2 := by
  rcases num_sim s i init rfl hi with ⟨h, _⟩ | ⟨h, _⟩
  · exact Or.inr h
  · exact Or.inl h

theorem point_inc {s : ByteArray} {i : Nat} (hi : i ≤ s.size) (hb : (pointE s i (-1)).2 = -1) : IncN i (pointL s i (-1)) (pointE s i (-1)).1 ∧ (pointE s i (-1)).1 ≤ s.size := by
  unfold pointE pointL at *
  obtain ⟨X, hX⟩ : ∃ X, numP s i (-1) = X := ⟨_, rfl⟩
  have n1 := num_bad hi
  have n2 := num_inc hi
  rw [hX] at n1 n2
  simp only [hX] at hb ⊢
  obtain ⟨v1, j, bd⟩ := X
  rcases n1 with e | e
  · simp only at e
    subst e
    obtain ⟨n3, n4⟩ := n2 rfl
    simp only at n3 n4
    by_cases h44 : bt s j = 44
    · have hjl := bt_pos (s := s) (k := j) (by omega)
      simp only [mustS_yes h44] at hb ⊢
      obtain ⟨k1, k2⟩ := num_inc (s := s) (i := j + 1) (by omega) hb
      refine ⟨⟨by simp, ⟨?_, ?_⟩⟩, k2⟩
      · simp only; omega
      · simp only [IncN]; omega
    · simp only [mustS_no h44, numP_bad (show (0 : Int) ≤ (j : Int) by omega)] at hb
      omega
  · simp only at e
    simp only [mustS_bad e, numP_bad e] at hb
    omega

theorem row_inc (s : ByteArray) : ∀ (n i : Nat), i ≤ s.size → s.size < i + n → (rowF s n i (-1)).2.2 = -1 → IncN i (rowF s n i (-1)).1 (rowF s n i (-1)).2.1 ∧ (rowF s n i (-1)).2.1 ≤ s.size
  | 0, i, hi, hn, hb => by omega
  | n + 1, i, hi, hn, hb => by
    have p := point_inc hi (s := s)
    have ps := point_sim s i init rfl rfl hi
    unfold PointSim at ps
    rw [rowF] at hb ⊢
    obtain ⟨P, hP⟩ : ∃ P, pointE s i (-1) = P := ⟨_, rfl⟩
    simp only [hP] at p ps hb ⊢
    obtain ⟨j, bd⟩ := P
    have hbd : bd = -1 := by
      rcases ps with ⟨e, _⟩ | ⟨e, _⟩
      · simp only at e
        simp only [onP_bad e] at hb
        simpa using hb
      · exact e
    subst hbd
    obtain ⟨p1, p2⟩ := p rfl
    simp only [onP_neg] at hb ⊢
    by_cases h32 : bt s j = 32
    · have hjl := bt_pos (s := s) (k := j) (by omega)
      rw [if_pos (decide_eq_true h32)] at hb ⊢
      have q := row_inc s n (j + 1) (by omega) (by have := p1.le; simp only at this; omega) hb
      exact ⟨p1.append (q.1.down (by simp only; omega)), q.2⟩
    · rw [if_neg (by rw [decide_eq_true_eq]; exact h32)]
      exact ⟨p1, p2⟩

theorem rings_inc (s : ByteArray) : ∀ (n i : Nat), i ≤ s.size → s.size < i + n → badAt s.size (ringsF s n i (-1)).2.1 (ringsF s n i (-1)).2.2 = -1 → IncR i (ringsF s n i (-1)).1 s.size
  | 0, i, hi, hn, hb => by omega
  | n + 1, i, hi, hn, hb => by
    have p := row_inc s (s.size + 1) i hi (by omega)
    have ps := row_sim s (s.size + 1) i init rfl rfl hi (by omega)
    unfold RowSim at ps
    rw [ringsF] at hb ⊢
    obtain ⟨P, hP⟩ : ∃ P, rowF s (s.size + 1) i (-1) = P := ⟨_, rfl⟩
    simp only [hP] at p ps hb ⊢
    obtain ⟨L, j, bd⟩ := P
    have hbd : bd = -1 := by
      rcases ps with ⟨e, _⟩ | ⟨e, _⟩
      · simp only at e
        simp only [onP_bad e] at hb
        rw [if_neg (by simp)] at hb
        simp only [badAt_bad e] at hb
        exact hb
      · exact e
    subst hbd
    obtain ⟨p1, p2⟩ := p rfl
    simp only at p2
    simp only [onP_neg] at hb ⊢
    by_cases h59 : bt s j = 59
    · have hjl := bt_pos (s := s) (k := j) (by omega)
      rw [if_pos (decide_eq_true h59)] at hb ⊢
      have q := rings_inc s n (j + 1) (by omega) (by have := p1.le; simp only at this; omega) hb
      refine ⟨((j + 1 : Nat) : Int), ?_, q⟩
      have : IncN (i : Int) (L ++ []) ((j + 1 : Nat) : Int) := p1.append (by simp only [IncN]; omega)
      simpa using this
    · rw [if_neg (by rw [decide_eq_true_eq]; exact h59)]
      exact ⟨(j : Int), p1, by simp only [IncR]; omega⟩

theorem prOf_flat (r : List Sp) : prOf (r.flatMap fl) = r.map ptOf := by
  induction r with
  | nil => rfl
  | cons p t ih =>
    simp only [List.flatMap_cons, fl, List.cons_append, List.nil_append, prOf, List.map_cons, ih]
    rfl

/-- the program's Read answers as the document's does -/
theorem reads_same (s : ByteArray) : readP s = rreadP s := by
  unfold readP rreadP
  by_cases hl : 120 < s.size
  · rw [if_pos hl, if_pos hl]
  · rw [if_neg hl, if_neg hl]
    rcases scan_rings s with ⟨hb, hs⟩ | ⟨hb, R, hs, hL⟩
    · rw [if_pos hb, hs]
    · rw [if_neg (by omega), hs]
      simp only
      have hinv := scanP_inv (s := s) (R := R) (by rw [hs])
      have hw : wRings 0 (ringsP s).1 (0, 0) = firstP R := by
        have e0 : ffEnd ⟨NW, NW, NW⟩ = (0, 0) := ffEnd_none rfl rfl rfl
        rw [hL, ← e0]
        refine rings_first (hi := (s.size : Int)) (by unfold NW; omega) R 0 ⟨NW, NW, NW⟩ 0 (fun r hr => (hinv.2 r hr).1) ?_ ⟨Or.inl rfl, Or.inl rfl, Or.inl rfl⟩
        rw [← hL]
        by_cases h0 : s.size = 0
        · rw [ringsP, if_pos h0]; simp only [IncR]; omega
        · rw [ringsP, if_neg h0] at hb ⊢
          exact rings_inc s (s.size + 1) 0 (by omega) (by omega) hb
      rw [hw, hL]
      by_cases hf : (firstP R).1 = 0
      · rw [if_pos hf, if_pos hf]
        simp only [List.map_map, Prod.mk.injEq, and_true]
        refine List.map_congr_left fun r _ => ?_
        exact (prOf_flat r).symm
      · rw [if_neg hf, if_neg hf]

end Go.Proofs.YtkjlkbgdkdcboaaGreatDoor

namespace Go.Proofs.YtkjlkbgdkdcboaaGreatDoor

theorem minI_ge {a b : Int} (h : NW ≤ minI a b) : NW ≤ a ∧ NW ≤ b := by
  unfold minI at h; split at h <;> omega
theorem farF_ge : ∀ (l : List (Int × Int)) (a : Int), NW ≤ farF a l → NW ≤ a ∧ ∀ n ∈ l, NW ≤ farN n
  | [], a, h => ⟨h, by simp⟩
  | n :: t, a, h => by
    rw [farF_cons] at h
    obtain ⟨h1, h2⟩ := farF_ge t _ h
    have h3 := minI_ge h1
    refine ⟨h3.1, fun m hm => ?_⟩
    rcases List.mem_cons.1 hm with rfl | hm
    · exact h3.2
    · exact h2 m hm
theorem farN_ok {n : Int × Int} (h : NW ≤ farN n) (hp : n.2 < NW) : -12 ≤ n.1 ∧ n.1 ≤ 12 := by
  unfold farN farP at h
  split at h
  · assumption
  · omega
theorem least1_ge {f a : Int} (h : NW ≤ leastP f [a]) : NW ≤ f ∧ NW ≤ a := minI_ge h
structure RingFine (i : Nat) (r : List Sp) : Prop where
  far : ∀ n ∈ r.flatMap fl, NW ≤ farN n
  many1 : 2 ≤ i → NW ≤ (r.headD default).1.1
  many2 : 6 < r.length → NW ≤ (r.getD 6 default).1.1
  few : r.length < 3 → NW ≤ (r.headD default).1.1
theorem ffRing_ge {i : Nat} {s : FF} {r : List Sp} (h1 : NW ≤ (ffRing i s r).far) (h2 : NW ≤ (ffRing i s r).many) (h3 : NW ≤ (ffRing i s r).few) : (NW ≤ s.far ∧ NW ≤ s.many ∧ NW ≤ s.few) ∧ RingFine i r := by
  unfold ffRing at h1 h2 h3
  simp only at h1 h2 h3
  rw [ffFar_eq] at h1
  obtain ⟨a1, a2⟩ := farF_ge _ _ h1
  have b : NW ≤ ffMany1 i s.many r ∧ (6 < r.length → NW ≤ (r.getD 6 default).1.1) := by
    unfold ffMany2 at h2
    split at h2
    · have := least1_ge h2; exact ⟨this.1, fun _ => this.2⟩
    · exact ⟨h2, fun h => absurd h (by assumption)⟩
  have c : NW ≤ s.many ∧ (2 ≤ i → NW ≤ (r.headD default).1.1) := by
    have h := b.1
    unfold ffMany1 at h
    split at h
    · have := least1_ge h; exact ⟨this.1, fun _ => this.2⟩
    · exact ⟨h, fun h => absurd h (by assumption)⟩
  have d : NW ≤ s.few ∧ (r.length < 3 → NW ≤ (r.headD default).1.1) := by
    unfold ffFew at h3
    split at h3
    · have := least1_ge h3; exact ⟨this.1, fun _ => this.2⟩
    · exact ⟨h3, fun h => absurd h (by assumption)⟩
  exact ⟨⟨a1, c.1, d.1⟩, ⟨a2, c.2, b.2, d.2⟩⟩
theorem ffAll_ge : ∀ (R : List (List Sp)) (i : Nat) (s : FF), NW ≤ (ffAll i s R).far → NW ≤ (ffAll i s R).many → NW ≤ (ffAll i s R).few → (NW ≤ s.far ∧ NW ≤ s.many ∧ NW ≤ s.few) ∧ ∀ k (h : k < R.length), RingFine (i + k) R[k]
  | [], i, s, h1, h2, h3 => ⟨⟨h1, h2, h3⟩, fun k h => by simp at h⟩
  | r :: t, i, s, h1, h2, h3 => by
    obtain ⟨⟨a, b, c⟩, d⟩ := ffAll_ge t (i + 1) (ffRing i s r) h1 h2 h3
    obtain ⟨e, f⟩ := ffRing_ge a b c
    refine ⟨e, fun k h => ?_⟩
    cases k with
    | zero => exact f
    | succ k =>
      have := d k (by simpa using h)
      rw [show i + 1 + k = i + (k + 1) by omega] at this
      exact this
theorem posN {lo hi : Int} {l : List (Int × Int)} (h : IncN lo l hi) : ∀ n ∈ l, n.2 < hi := by
  intro n hn
  obtain ⟨k, hk, rfl⟩ := List.mem_iff_getElem.1 hn
  exact (h.get hk).2
theorem posR {hi : Int} : ∀ (L : List (List (Int × Int))) (lo : Int), IncR lo L hi → ∀ l ∈ L, ∀ n ∈ l, n.2 < hi
  | [], _, _ => by simp
  | l :: t, lo, h => by
    obtain ⟨mid, h1, h2⟩ := h
    intro m hm n hn
    rcases List.mem_cons.1 hm with rfl | hm
    · have := posN h1 n hn
      have := h2.le
      omega
    · exact posR t mid h2 m hm n hn
theorem scan_inc {s : ByteArray} {R : List (List Sp)} (h : (scanP s).1 = some R) : (∀ r ∈ R, r ≠ []) ∧ IncR 0 (R.map (fun r => r.flatMap fl)) s.size := by
  have hinv := scanP_inv (s := s) (R := R) h
  rcases scan_rings s with ⟨hb, hs⟩ | ⟨hb, R', hs, hL⟩
  · rw [hs] at h; simp at h
  · rw [hs] at h
    simp at h
    subst h
    refine ⟨fun r hr => (hinv.2 r hr).1, ?_⟩
    rw [← hL]
    by_cases h0 : s.size = 0
    · rw [ringsP, if_pos h0]; simp only [IncR]; omega
    · rw [ringsP, if_neg h0] at hb ⊢
      exact rings_inc s (s.size + 1) 0 (by omega) (by omega) hb
theorem first_fine {R : List (List Sp)} (h : (firstP R).1 = 0) : ∀ k (h : k < R.length), RingFine k R[k] := by
  unfold firstP at h
  rw [ffEnd_eq] at h
  have hm : minI (minI (ffAll 0 ⟨NW, NW, NW⟩ R).far (ffAll 0 ⟨NW, NW, NW⟩ R).many) (ffAll 0 ⟨NW, NW, NW⟩ R).few = NW := by
    split at h
    · assumption
    · split at h
      · simp at h
      · split at h <;> simp at h
  have h1 := minI_ge (Int.le_of_eq hm.symm)
  have h2 := minI_ge h1.1
  have := (ffAll_ge R 0 ⟨NW, NW, NW⟩ h2.1 h2.2 h1.2).2
  intro k hk
  have := this k hk
  rwa [Nat.zero_add] at this
/-- what is read is a field -/
theorem read_field {s : ByteArray} (h : (readP s).2.1 = 0) : Acre.fieldOk (readP s).1 = true := by
  unfold readP at h ⊢
  split at h
  · simp at h
  · rename_i hl
    rw [if_neg hl]
    cases hs : (scanP s).1 with
    | none => rw [hs] at h; simp at h
    | some R =>
      rw [hs] at h
      simp only at h ⊢
      split at h
      · rename_i hf
        rw [if_pos hf]
        obtain ⟨hne, hinc⟩ := scan_inc hs
        have hfine := first_fine hf
        have hpos : ∀ r ∈ R, ∀ n ∈ r.flatMap fl, n.2 < NW := fun r hr n hn => by
          have := posR _ _ hinc _ (List.mem_map.2 ⟨r, hr, rfl⟩) n hn
          unfold NW; omega
        have hp1 : ∀ r ∈ R, ∀ p ∈ r, p.1.1 < NW := fun r hr p hp => hpos r hr (p.1.2, p.1.1) (List.mem_flatMap.2 ⟨p, hp, by simp [fl]⟩)
        have hhd : ∀ r ∈ R, (r.headD default).1.1 < NW := fun r hr => by
          cases r with
          | nil => exact absurd rfl (hne [] hr)
          | cons p t => exact hp1 _ hr p (by simp)
        unfold Acre.fieldOk
        simp only [List.length_map, Bool.and_eq_true, decide_eq_true_eq]
        refine ⟨?_, ?_⟩
        · by_cases h2 : R.length ≤ 2
          · exact h2
          · have a := (hfine 2 (by omega)).many1 (by omega)
            have b := hhd R[2] (List.getElem_mem _)
            omega
        · rw [List.all_eq_true]
          intro q hq
          obtain ⟨r, hr, rfl⟩ := List.mem_map.1 hq
          obtain ⟨k, hk, hkr⟩ := List.mem_iff_getElem.1 hr
          have hF := hfine k hk
          rw [hkr] at hF
          have hh := hhd r hr
          unfold Acre.ringOk
          simp only [List.length_map, Bool.and_eq_true, decide_eq_true_eq]
          refine ⟨⟨?_, ?_⟩, ?_⟩
          · by_cases h3 : 3 ≤ r.length
            · exact h3
            · have := hF.few (by omega); omega
          · by_cases h6 : r.length ≤ 6
            · exact h6
            · have a := hF.many2 (by omega)
              have e : r.getD 6 default = r[6] := by simp [show 6 < r.length by omega]
              rw [e] at a
              have := hp1 r hr r[6] (List.getElem_mem _)
              omega
          · rw [List.all_eq_true]
            intro q hq
            obtain ⟨p, hp, rfl⟩ := List.mem_map.1 hq
            have m1 : (p.1.2, p.1.1) ∈ r.flatMap fl := List.mem_flatMap.2 ⟨p, hp, by simp [fl]⟩
            have m2 : (p.2.2, p.2.1) ∈ r.flatMap fl := List.mem_flatMap.2 ⟨p, hp, by simp [fl]⟩
            have g1 := farN_ok (hF.far _ m1) (hpos r hr _ m1)
            have g2 := farN_ok (hF.far _ m2) (hpos r hr _ m2)
            unfold Acre.onGrid ptOf
            simp only [Bool.and_eq_true, decide_eq_true_eq]
            exact ⟨g1, g2⟩
      · rename_i hf
        exact absurd h hf

end Go.Proofs.YtkjlkbgdkdcboaaGreatDoor

