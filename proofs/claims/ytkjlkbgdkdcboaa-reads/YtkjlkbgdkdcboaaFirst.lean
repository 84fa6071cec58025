import Derived.Test.YtkjlkbgdkdcboaaScan3
import Derived.Test.YtkjlkbgdkdcboaaFault
import Derived.Test.YtkjlkbgdkdcboaaWrong
namespace Go.Proofs.Ytkjlkbgdkdcboaa

def minI (a b : Int) : Int := if b < a then b else a
def farN (n : Int × Int) : Int := farP n.2 n.1 NW
def farF (a : Int) (l : List (Int × Int)) : Int := l.foldl (fun x n => minI x (farN n)) a
theorem ffFar_eq (far : Int) (r : List Sp) : ffFar far r = farF far (r.flatMap fl) := by
  induction r generalizing far with
  | nil => rfl
  | cons p t ih =>
    have : ffFar far (p :: t) = ffFar (ffPt far p) t := rfl
    rw [this, ih]
    rfl

/-- places that rise, from lo on and below hi -/
def IncN : Int → List (Int × Int) → Int → Prop
  | lo, [], hi => lo ≤ hi
  | lo, n :: t, hi => lo ≤ n.2 ∧ IncN (n.2 + 1) t hi
def IncR : Int → List (List (Int × Int)) → Int → Prop
  | lo, [], hi => lo ≤ hi
  | lo, l :: t, hi => ∃ mid, IncN lo l mid ∧ IncR mid t hi
theorem IncN.le {lo hi : Int} {l : List (Int × Int)} (h : IncN lo l hi) : lo ≤ hi := by
  induction l generalizing lo with
  | nil => exact h
  | cons n t ih => have := ih h.2; have := h.1; omega
theorem IncR.le {lo hi : Int} {L : List (List (Int × Int))} (h : IncR lo L hi) : lo ≤ hi := by
  induction L generalizing lo with
  | nil => exact h
  | cons l t ih => obtain ⟨mid, h1, h2⟩ := h; have := h1.le; have := ih h2; omega
theorem IncN.down {lo lo' hi : Int} {l : List (Int × Int)} (h : IncN lo l hi) (hl : lo' ≤ lo) : IncN lo' l hi := by
  cases l with
  | nil => exact Int.le_trans hl h
  | cons n t => exact ⟨Int.le_trans hl h.1, h.2⟩
theorem IncN.append {lo mid hi : Int} {a b : List (Int × Int)} (h : IncN lo a mid) (k : IncN mid b hi) : IncN lo (a ++ b) hi := by
  induction a generalizing lo with
  | nil => exact k.down h
  | cons n t ih => exact ⟨h.1, ih h.2⟩
theorem IncN.get {lo hi : Int} {l : List (Int × Int)} (h : IncN lo l hi) {k : Nat} (hk : k < l.length) : lo + k ≤ l[k].2 ∧ l[k].2 < hi := by
  induction l generalizing lo k with
  | nil => simp at hk
  | cons n t ih =>
    cases k with
    | zero => have := h.1; have := IncN.le h.2; simp; omega
    | succ k =>
      have := ih h.2 (k := k) (by simpa using hk)
      have := h.1
      simp only [List.getElem_cons_succ]
      omega

theorem farN_le (n : Int × Int) : farN n = NW ∨ farN n = n.2 := by unfold farN farP; split <;> simp
theorem farF_cons (a : Int) (n : Int × Int) (t : List (Int × Int)) : farF a (n :: t) = farF (minI a (farN n)) t := rfl
theorem farF_min (a : Int) (l : List (Int × Int)) (ha : a ≤ NW) : farF a l = minI a (farF NW l) ∧ farF NW l ≤ NW := by
  induction l generalizing a with
  | nil => constructor <;> simp [farF, minI] <;> omega
  | cons n t ih =>
    have hb : minI a (farN n) ≤ NW := by unfold minI; split <;> omega
    have hc : minI NW (farN n) ≤ NW := by unfold minI; split <;> omega
    have h1 := (ih (minI a (farN n)) hb).1
    have h2 := (ih (minI NW (farN n)) hc)
    rw [farF_cons, farF_cons, h1, h2.1]
    have h3 := (ih NW (Int.le_refl _)).2
    refine ⟨?_, ?_⟩
    · simp only [minI]; repeat' split
      all_goals omega
    · simp only [minI] at hc ⊢; repeat' split
      all_goals omega
theorem farF_low {lo hi : Int} {l : List (Int × Int)} (h : IncN lo l hi) (hh : hi ≤ NW) : lo ≤ farF NW l ∧ (farF NW l = NW ∨ farF NW l < hi) := by
  induction l generalizing lo with
  | nil => exact ⟨by have := h; simp only [IncN] at this; simp [farF]; omega, Or.inl rfl⟩
  | cons n t ih =>
    have h1 := ih h.2
    have h0 := h.1
    have hle := IncN.le h.2
    have hn := farN_le n
    rw [farF_cons, (farF_min (minI NW (farN n)) t (by unfold minI; split <;> omega)).1]
    simp only [minI]
    repeat' split
    all_goals omega

theorem wNums_const {hi : Int} : ∀ (l : List (Int × Int)) (k : Nat) (p : Int × Int), p.1 ≠ 0 → IncN (p.2 + 1) l hi → wNums k l p = p
  | [], _, _, _, _ => rfl
  | n :: t, k, p, hp, h => by
    have h1 := h.1
    have e1 : wSide n p = p := by unfold wSide; rw [if_neg (by omega)]
    have e2 : wMany k n p = p := by unfold wMany; rw [if_neg (by omega)]
    rw [wNums, e1, e2]
    exact wNums_const t (k + 1) p hp (h.2.down (by omega))

def manyF (k : Nat) (l : List (Int × Int)) : Int := if k ≤ 12 then ((l[12 - k]?).map (fun n => n.2)).getD NW else NW
def end2 (f m : Int) : Int × Int := if minI f m = NW then (0, 0) else if minI f m = f then (5, f) else (3, m)

theorem manyF_cons {k : Nat} {n : Int × Int} {t : List (Int × Int)} (hk : k ≠ 12) : manyF k (n :: t) = manyF (k + 1) t := by
  unfold manyF
  by_cases h : k ≤ 12
  · rw [if_pos h, if_pos (by omega)]
    have e : 12 - k = (12 - (k + 1)) + 1 := by omega
    rw [e, List.getElem?_cons_succ]
  · rw [if_neg h, if_neg (by omega)]
theorem manyF_low {lo hi : Int} {l : List (Int × Int)} (h : IncN lo l hi) (hh : hi ≤ NW) (k : Nat) : lo ≤ manyF k l ∧ (manyF k l = NW ∨ manyF k l < hi) := by
  have hle := h.le
  unfold manyF
  split
  · by_cases hk : 12 - k < l.length
    · rw [List.getElem?_eq_getElem hk]
      have := h.get hk
      simp only [Option.map_some, Option.getD_some]
      omega
    · rw [List.getElem?_eq_none (by omega)]
      exact ⟨by simp; omega, Or.inl rfl⟩
  · exact ⟨by omega, Or.inl rfl⟩

theorem wNums_zero {hi : Int} (hh : hi ≤ NW) : ∀ (l : List (Int × Int)) (k : Nat) (lo : Int), IncN lo l hi → wNums k l (0, 0) = end2 (farF NW l) (manyF k l)
  | [], k, lo, h => by
    have : manyF k [] = NW := by unfold manyF; split <;> simp
    rw [this]; simp [wNums, end2, farF, minI]
  | n :: t, k, lo, h => by
    have h0 := h.1
    have hle := IncN.le h.2
    have hf := farF_low h.2 hh
    have hm := manyF_low h.2 hh (k + 1)
    have hmk := manyF_low h hh k
    rw [wNums, farF_cons, (farF_min (minI NW (farN n)) t (by unfold minI; split <;> omega)).1]
    by_cases hfar : 12 < n.1 ∨ n.1 < -12
    · have e1 : wSide n (0, 0) = (5, n.2) := by unfold wSide; rw [if_pos ⟨hfar, Or.inl rfl⟩]
      have e2 : wMany k n (5, n.2) = (5, n.2) := by unfold wMany; rw [if_neg (by simp)]
      have e3 : farN n = n.2 := by unfold farN farP; rw [if_neg (by omega)]
      rw [e1, e2, wNums_const t (k + 1) (5, n.2) (by simp) h.2, e3]
      have e4 : n.2 ≤ manyF k (n :: t) := by
        by_cases hk : k = 12
        · subst hk; simp [manyF]
        · rw [manyF_cons hk]; omega
      unfold end2
      simp only [minI]
      repeat' split
      all_goals first | rfl | omega
    · have e1 : wSide n (0, 0) = (0, 0) := by unfold wSide; rw [if_neg (by intro x; exact hfar x.1)]
      have e3 : farN n = NW := by unfold farN farP; rw [if_pos (by omega)]
      have e4 : minI (minI NW (farN n)) (farF NW t) = farF NW t := by
        rw [e3]
        have := (farF_min NW t (Int.le_refl _)).2
        simp only [minI]
        repeat' split
        all_goals omega
      rw [e1, e4]
      by_cases hk : k = 12
      · subst hk
        have e2 : wMany 12 n (0, 0) = (3, n.2) := by unfold wMany; rw [if_pos ⟨rfl, Or.inl rfl⟩]
        have e5 : manyF 12 (n :: t) = n.2 := by simp [manyF]
        rw [e2, wNums_const t (12 + 1) (3, n.2) (by simp) h.2, e5]
        unfold end2
        simp only [minI]
        repeat' split
        all_goals first | rfl | omega
      · have e2 : wMany k n (0, 0) = (0, 0) := by unfold wMany; rw [if_neg (by intro x; exact hk x.1)]
        rw [e2, manyF_cons hk]
        exact wNums_zero hh t (k + 1) _ h.2

/-- faults that were found lie ahead of lo -/
structure Ahead (s : FF) (lo : Int) : Prop where
  a : s.far = NW ∨ s.far < lo
  b : s.many = NW ∨ s.many < lo
  c : s.few = NW ∨ s.few < lo

theorem leastP2 (f a b : Int) : leastP f [a, b] = minI (minI f a) b := rfl
theorem leastP1 (f a : Int) : leastP f [a] = minI f a := rfl
theorem ffEnd_eq (s : FF) : ffEnd s = if minI (minI s.far s.many) s.few = NW then (0, 0) else if minI (minI s.far s.many) s.few = s.far then (5, minI (minI s.far s.many) s.few) else if minI (minI s.far s.many) s.few = s.many then (3, minI (minI s.far s.many) s.few) else (4, minI (minI s.far s.many) s.few) := rfl

theorem flat_len (r : List Sp) : (r.flatMap fl).length = 2 * r.length := by
  induction r with
  | nil => rfl
  | cons p t ih => simp only [List.flatMap_cons, List.length_append, ih, fl, List.length_cons, List.length_nil]; omega
theorem flat_head {r : List Sp} (h : r ≠ []) : ((r.flatMap fl).headD (0, 0)).2 = (r.headD default).1.1 := by
  cases r with
  | nil => exact absurd rfl h
  | cons p t => rfl
theorem flat_get : ∀ (r : List Sp) (k : Nat) (h : k < r.length), (r.flatMap fl)[2 * k]? = some (r[k].1.2, r[k].1.1)
  | p :: t, 0, _ => rfl
  | p :: t, k + 1, h => by
    have e : 2 * (k + 1) = 2 * k + 1 + 1 := by omega
    have := flat_get t k (by simpa using h)
    simp only [List.flatMap_cons, fl, List.cons_append, List.nil_append, e, List.getElem?_cons_succ, List.getElem_cons_succ] at this ⊢
    exact this

theorem minI_spec (a b : Int) : (minI a b = a ∧ a ≤ b) ∨ (minI a b = b ∧ b < a) := by
  unfold minI; split <;> omega
theorem ffEnd_far {s : FF} (h1 : s.far ≤ s.many) (h2 : s.far ≤ s.few) (h3 : s.far ≠ NW) : ffEnd s = (5, s.far) := by
  have e : minI (minI s.far s.many) s.few = s.far := by
    have := minI_spec s.far s.many; have := minI_spec (minI s.far s.many) s.few; omega
  rw [ffEnd_eq, e, if_neg h3, if_pos rfl]
theorem ffEnd_many {s : FF} (h1 : s.many < s.far) (h2 : s.many ≤ s.few) (h3 : s.many ≠ NW) : ffEnd s = (3, s.many) := by
  have e : minI (minI s.far s.many) s.few = s.many := by
    have := minI_spec s.far s.many; have := minI_spec (minI s.far s.many) s.few; omega
  rw [ffEnd_eq, e, if_neg h3, if_neg (by omega), if_pos rfl]
theorem ffEnd_few {s : FF} (h1 : s.few < s.far) (h2 : s.few < s.many) (h3 : s.few ≠ NW) : ffEnd s = (4, s.few) := by
  have e : minI (minI s.far s.many) s.few = s.few := by
    have := minI_spec s.far s.many; have := minI_spec (minI s.far s.many) s.few; omega
  rw [ffEnd_eq, e, if_neg h3, if_neg (by omega), if_neg (by omega)]
theorem ffEnd_none {s : FF} (h1 : s.far = NW) (h2 : s.many = NW) (h3 : s.few = NW) : ffEnd s = (0, 0) := by
  rw [ffEnd_eq, h1, h2, h3]; simp [minI]
theorem end2_far {f m : Int} (h1 : f ≤ m) (h2 : f ≠ NW) : end2 f m = (5, f) := by
  have e : minI f m = f := by have := minI_spec f m; omega
  rw [end2, e, if_neg h2, if_pos rfl]
theorem end2_many {f m : Int} (h1 : m < f) (h2 : m ≠ NW) : end2 f m = (3, m) := by
  have e : minI f m = m := by have := minI_spec f m; omega
  rw [end2, e, if_neg h2, if_neg (by omega)]
theorem end2_none {f m : Int} (h1 : f = NW) (h2 : m = NW) : end2 f m = (0, 0) := by
  rw [end2, h1, h2]; simp [minI]

set_option maxHeartbeats 8000000 in
/-- one ring -/
theorem ring_first (i : Nat) (s : FF) (r : List Sp) (lo hi : Int) (hr : r ≠ []) (hI : IncN lo (r.flatMap fl) hi) (hh : hi ≤ NW) (hA : Ahead s lo) :
    wNums 0 (r.flatMap fl) (wHead i (r.flatMap fl) (ffEnd s)) = ffEnd (ffRing i s r) ∧ Ahead (ffRing i s r) hi := by
  obtain ⟨a1, a2, a3⟩ := hA
  obtain ⟨l, hl⟩ : ∃ l, r.flatMap fl = l := ⟨_, rfl⟩
  have hlen := flat_len r
  have hhd := flat_head hr
  have hpos : 0 < r.length := List.length_pos_iff.2 hr
  have hF : ffRing i s r = ⟨farF s.far l, (if 6 < r.length then minI (if 2 ≤ i then minI s.many (l.headD (0, 0)).2 else s.many) (manyF 0 l) else (if 2 ≤ i then minI s.many (l.headD (0, 0)).2 else s.many)), (if r.length < 3 then minI s.few (l.headD (0, 0)).2 else s.few)⟩ := by
    unfold ffRing ffMany2 ffMany1 ffFew
    rw [ffFar_eq, hl, ← hhd, hl]
    congr 1
    by_cases h6 : 6 < r.length
    · rw [if_pos h6, if_pos h6]
      have e : manyF 0 l = (r.getD 6 default).1.1 := by
        have g := flat_get r 6 h6
        rw [hl] at g
        have g' : l[12]? = some (r[6].1.2, r[6].1.1) := g
        unfold manyF
        rw [if_pos (by omega)]
        simp only [Nat.sub_zero]
        rw [g', List.getD_eq_getElem?_getD, List.getElem?_eq_getElem h6]
        rfl
      rw [e]; rfl
    · rw [if_neg h6, if_neg h6]; rfl
  have hM6 : ¬ 6 < r.length → manyF 0 l = NW := fun h6 => by
    unfold manyF
    rw [if_pos (by omega), List.getElem?_eq_none (by rw [← hl, hlen]; omega)]
    rfl
  rw [hF]
  rw [hl] at hI hlen ⊢
  clear hF hhd hl
  cases l with
  | nil => simp at hlen; omega
  | cons n t =>
    have h0 := hI.1
    have hle := IncN.le hI.2
    have hM := manyF_low hI hh 0
    have hM1 := manyF_low hI.2 hh 1
    rw [← manyF_cons (n := n) (by decide)] at hM1
    have hG := farF_low hI hh
    have hGt := farF_low hI.2 hh
    have hGc : farF NW (n :: t) = minI (minI NW (farN n)) (farF NW t) := (farF_min (minI NW (farN n)) t (by have := minI_spec NW (farN n); omega)).1
    have hfn := farN_le n
    have hff := (farF_min s.far (n :: t) (by omega)).1
    have m1 := minI_spec NW (farN n)
    have m2 := minI_spec (minI NW (farN n)) (farF NW t)
    rw [← hGc] at m2
    rw [hff]
    simp only [List.headD_cons]
    have hz := wNums_zero hh (n :: t) 0 lo hI
    generalize farF NW (n :: t) = G at *
    generalize manyF 0 (n :: t) = M at *
    have m3 := minI_spec s.far G
    have m4 := minI_spec s.many n.2
    have m5 := minI_spec s.few n.2
    -- the new many, the new few
    obtain ⟨F', hF'⟩ : ∃ F', minI s.far G = F' := ⟨_, rfl⟩
    obtain ⟨M1, hM1e⟩ : ∃ M1, (if 2 ≤ i then minI s.many n.2 else s.many) = M1 := ⟨_, rfl⟩
    obtain ⟨M', hM'e⟩ : ∃ M', (if 6 < r.length then minI M1 M else M1) = M' := ⟨_, rfl⟩
    obtain ⟨W', hW'e⟩ : ∃ W', (if r.length < 3 then minI s.few n.2 else s.few) = W' := ⟨_, rfl⟩
    rw [hM1e, hM'e, hW'e, hF']
    rw [hF'] at m3
    have q1 : (2 ≤ i ∧ M1 = minI s.many n.2) ∨ (¬ 2 ≤ i ∧ M1 = s.many) := by
      by_cases h : 2 ≤ i
      · rw [if_pos h] at hM1e; exact Or.inl ⟨h, hM1e.symm⟩
      · rw [if_neg h] at hM1e; exact Or.inr ⟨h, hM1e.symm⟩
    have m6 := minI_spec M1 M
    have q2 : (6 < r.length ∧ M' = minI M1 M) ∨ (¬ 6 < r.length ∧ M = NW ∧ M' = M1) := by
      by_cases h : 6 < r.length
      · rw [if_pos h] at hM'e; exact Or.inl ⟨h, hM'e.symm⟩
      · rw [if_neg h] at hM'e; exact Or.inr ⟨h, hM6 h, hM'e.symm⟩
    have q3 : (r.length < 3 ∧ W' = minI s.few n.2) ∨ (¬ r.length < 3 ∧ W' = s.few) := by
      by_cases h : r.length < 3
      · rw [if_pos h] at hW'e; exact Or.inl ⟨h, hW'e.symm⟩
      · rw [if_neg h] at hW'e; exact Or.inr ⟨h, hW'e.symm⟩
    clear hM1e hM'e hW'e hF' hff hM6 hGc
    have hlen2 : (n :: t).length = 2 * r.length := hlen
    have hw : wHead i (n :: t) (ffEnd s) = if (2 ≤ i ∨ (n :: t).length < 6) ∧ ((ffEnd s).1 = 0 ∨ n.2 < (ffEnd s).2) then ((if 2 ≤ i then 3 else 4 : Int), n.2) else ffEnd s := rfl
    have g1 : lo ≤ G := hG.1
    have g2 : n.2 + 1 ≤ M := hM1.1
    have A1 : F' = NW ∨ F' < hi := by clear q1 q2 q3 m1 m2 m4 m5 m6 a2 a3 hM hM1 hGt hfn; omega
    have A3 : W' = NW ∨ W' < hi := by clear q1 q2 m1 m2 m3 m4 m6 a1 a2 hM hM1 hGt hfn hG; omega
    have A2' : M1 = NW ∨ M1 < hi := by clear q2 q3 m1 m2 m3 m5 m6 a1 a3 hM hM1 hGt hfn hG; omega
    have A2 : M' = NW ∨ M' < hi := by clear q1 q3 m1 m2 m3 m4 m5 a1 a2 a3 hM1 hGt hfn hG; omega
    refine ⟨?_, ⟨A1, A2, A3⟩⟩
    clear A1 A2 A2' A3
    rw [hw]
    clear hw hlen
    by_cases c0 : s.far = NW ∧ s.many = NW ∧ s.few = NW
    · obtain ⟨c1, c2, c3⟩ := c0
      rw [ffEnd_none c1 c2 c3]
      have eF : F' = G := by clear q1 q2 q3 m1 m2 m4 m5 m6 a1 a2 a3 hM hM1 hGt hfn; omega
      have eW : (r.length < 3 ∧ W' = n.2) ∨ (¬ r.length < 3 ∧ W' = NW) := by clear q1 q2 m1 m2 m3 m4 m6 a1 a2 a3 hM hM1 hGt hfn hG; omega
      have eM1 : (2 ≤ i ∧ M1 = n.2) ∨ (¬ 2 ≤ i ∧ M1 = NW) := by clear q2 q3 m1 m2 m3 m5 m6 a1 a2 a3 hM hM1 hGt hfn hG eW; omega
      have eM : (2 ≤ i ∧ M' = n.2) ∨ (¬ 2 ≤ i ∧ M' = M) := by clear q1 q3 m1 m2 m3 m4 m5 a1 a2 a3 hM1 hGt hfn hG eW; omega
      have hGn : (farN n = n.2 ∧ G = n.2) ∨ (farN n = NW ∧ n.2 + 1 ≤ G) := by clear q1 q2 q3 m3 m4 m5 m6 a1 a2 a3 hM hM1 eW eM eM1 hG; omega
      have hMN : M ≤ NW := by omega
      have hGN : G ≤ NW := by omega
      subst eF
      clear q1 q2 q3 m1 m2 m3 m4 m5 m6 a1 a2 a3 hM hM1 hGt hfn hG eM1
      by_cases hhd : 2 ≤ i ∨ r.length < 3
      · rw [if_pos ⟨by omega, Or.inl rfl⟩]
        obtain ⟨e, he⟩ : ∃ e : Int, (if 2 ≤ i then 3 else 4 : Int) = e := ⟨_, rfl⟩
        rw [he]
        have he2 : (2 ≤ i ∧ e = 3) ∨ (¬ 2 ≤ i ∧ e = 4) := by
          by_cases h : 2 ≤ i
          · rw [if_pos h] at he; exact Or.inl ⟨h, he.symm⟩
          · rw [if_neg h] at he; exact Or.inr ⟨h, he.symm⟩
        rw [wNums]
        have e2 : ∀ p : Int × Int, wMany 0 n p = p := fun p => by unfold wMany; rw [if_neg (by omega)]
        rw [e2]
        by_cases hfar : 12 < n.1 ∨ n.1 < -12
        · have e1 : wSide n (e, n.2) = (5, n.2) := by unfold wSide; rw [if_pos ⟨hfar, Or.inr (Or.inr ⟨rfl, by simp only; omega⟩)⟩]
          have e3 : farN n = n.2 := by unfold farN farP; rw [if_neg (by omega)]
          rw [e1, wNums_const t (0 + 1) (5, n.2) (by simp) hI.2, ffEnd_far (by simp only; omega) (by simp only; omega) (by simp only; omega)]
          simp only [Prod.mk.injEq, true_and]
          omega
        · have e1 : wSide n (e, n.2) = (e, n.2) := by unfold wSide; rw [if_neg (fun h => hfar h.1)]
          have e3 : farN n = NW := by unfold farN farP; rw [if_pos (by omega)]
          rw [e1, wNums_const t (0 + 1) (e, n.2) (by simp only; omega) hI.2]
          rcases he2 with ⟨hi2, rfl⟩ | ⟨hi2, rfl⟩
          · rw [ffEnd_many (by simp only; omega) (by simp only; omega) (by simp only; omega)]
            simp only [Prod.mk.injEq, true_and]
            omega
          · rw [ffEnd_few (by simp only; omega) (by simp only; omega) (by simp only; omega)]
            simp only [Prod.mk.injEq, true_and]
            omega
      · rw [if_neg (by omega), hz]
        by_cases d1 : F' = NW ∧ M = NW
        · rw [end2_none d1.1 d1.2, ffEnd_none (by simp only; omega) (by simp only; omega) (by simp only; omega)]
        · by_cases d2 : F' ≤ M
          · rw [end2_far d2 (by omega), ffEnd_far (by simp only; omega) (by simp only; omega) (by simp only; omega)]
          · rw [end2_many (by omega) (by omega), ffEnd_many (by simp only; omega) (by simp only; omega) (by simp only; omega)]
            simp only [Prod.mk.injEq, true_and]
            omega
    · have Q1 : F' = s.far ∨ (lo ≤ F' ∧ F' < s.far) := by clear q1 q2 q3 m1 m2 m4 m5 m6 a1 a2 a3 hM hM1 hGt hfn hG; omega
      have Q3 : W' = s.few ∨ (lo ≤ W' ∧ W' < s.few) := by clear q1 q2 m1 m2 m3 m4 m6 a1 a2 a3 hM hM1 hGt hfn hG; omega
      have Q2' : M1 = s.many ∨ (lo ≤ M1 ∧ M1 < s.many) := by clear q2 q3 m1 m2 m3 m5 m6 a1 a2 a3 hM hM1 hGt hfn hG; omega
      have Q2 : M' = s.many ∨ (lo ≤ M' ∧ M' < s.many) := by clear q1 q3 m1 m2 m3 m4 m5 a1 a2 a3 hM hM1 hGt hfn hG Q1 Q3; omega
      clear q1 q2 q3 m1 m2 m3 m4 m5 m6 hM hM1 hGt hfn hG Q2' hz
      by_cases d1 : s.far ≤ s.many ∧ s.far ≤ s.few
      · have e0 := ffEnd_far d1.1 d1.2 (by omega)
        rw [e0, if_neg (by simp only; omega), wNums_const (n :: t) 0 (5, s.far) (by simp) (hI.down (by simp only; omega)), ffEnd_far (by simp only; omega) (by simp only; omega) (by simp only; omega)]
        simp only [Prod.mk.injEq, true_and]
        omega
      · by_cases d2 : s.many < s.far ∧ s.many ≤ s.few
        · have e0 := ffEnd_many d2.1 d2.2 (by omega)
          rw [e0, if_neg (by simp only; omega), wNums_const (n :: t) 0 (3, s.many) (by simp) (hI.down (by simp only; omega)), ffEnd_many (by simp only; omega) (by simp only; omega) (by simp only; omega)]
          simp only [Prod.mk.injEq, true_and]
          omega
        · have e0 := ffEnd_few (s := s) (by omega) (by omega) (by omega)
          rw [e0, if_neg (by simp only; omega), wNums_const (n :: t) 0 (4, s.few) (by simp) (hI.down (by simp only; omega)), ffEnd_few (by simp only; omega) (by simp only; omega) (by simp only; omega)]
          simp only [Prod.mk.injEq, true_and]
          omega

theorem rings_first {hi : Int} (hh : hi ≤ NW) : ∀ (R : List (List Sp)) (i : Nat) (s : FF) (lo : Int), (∀ r ∈ R, r ≠ []) → IncR lo (R.map (fun r => r.flatMap fl)) hi → Ahead s lo → wRings i (R.map (fun r => r.flatMap fl)) (ffEnd s) = ffEnd (ffAll i s R)
  | [], _, _, _, _, _, _ => rfl
  | r :: R, i, s, lo, hne, hI, hA => by
    obtain ⟨mid, h1, h2⟩ := hI
    have hm := IncR.le h2
    obtain ⟨q1, q2⟩ := ring_first i s r lo mid (hne r (List.mem_cons_self)) h1 (by omega) hA
    simp only [List.map_cons, wRings, ffAll]
    rw [q1]
    exact rings_first hh R (i + 1) _ mid (fun x hx => hne x (List.mem_cons_of_mem _ hx)) h2 q2

end Go.Proofs.Ytkjlkbgdkdcboaa
