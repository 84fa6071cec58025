import Derived.Test.YtkjlkbgdkdcboaaGreatDoorFillS
import Derived.Test.YtkjlkbgdkdcboaaGreatDoorSlabs

set_option linter.unusedSimpArgs false
set_option linter.unusedVariables false

set_option linter.unusedSimpArgs false
set_option linter.unusedVariables false

namespace Go.Proofs.YtkjlkbgdkdcboaaGreatDoor

theorem sum_swap0 (f : Acre.Fc) (c : Acre.Ed × Acre.Ed → Bool) (ks : List (Acre.Ed × Acre.Ed)) (hn : ks.Nodup) : ∀ (ps : List Acre.Pc), (∀ p ∈ ps, p.2 ∈ ks ∨ Acre.act p f = 0) → sumT ks (bandT ps f) c = (ps.map (fun p => if c p.2 = true then Acre.act p f else 0)).sum
  | [], _ => sumT_zero c ks
  | p :: ps, h => by
    have ih := sum_swap0 f c ks hn ps (fun q hq => h q (List.mem_cons_of_mem _ hq))
    have e : bandT (p :: ps) f = fun b => (if p.2 = b then Acre.act p f else 0) + bandT ps f b := by
      funext b; unfold bandT; rw [List.map_cons, List.sum_cons]
    rw [e, sumT_add, ih, List.map_cons, List.sum_cons]
    rcases h p (List.mem_cons_self ..) with h1 | h1
    · rw [sumT_one c ks hn h1]
    · rw [h1]
      have : (fun b => if p.2 = b then (0 : Int) else 0) = fun _ => 0 := by funext b; split <;> rfl
      rw [this, sumT_zero]
      simp
/-- the bands say what the pieces say -/
theorem okS_slab {E : List Acre.Ed} {kk : Nat} {op : Int} {f t : Acre.Fc} {ks : List (Acre.Ed × Acre.Ed)} {T : Acre.Ed × Acre.Ed → Int} {ps : List Acre.Pc} (hn : ks.Nodup) (hT : ∀ b, T b = bandT ps f b) (hp : ∀ p ∈ ps, p.2 ∈ ks ∨ Acre.act p f = 0) : okS E kk op f t ks T = Acre.slabOk E kk op ps f t := by
  have e : T = bandT ps f := funext hT
  subst e
  unfold okS Acre.slabOk
  have h1 : ∀ i, sumT ks (bandT ps f) (aboT E (Acre.mdn f t) i) = Acre.aboveP E ps f t i := fun i => sum_swap0 f _ ks hn ps hp
  have h2 : ∀ i, sumT ks (bandT ps f) (acrT E (Acre.mdn f t) i) = Acre.acrossP E ps f t i := fun i => sum_swap0 f _ ks hn ps hp
  simp only [h1, h2]

end Go.Proofs.YtkjlkbgdkdcboaaGreatDoor

namespace Go.Proofs.YtkjlkbgdkdcboaaGreatDoor

theorem Lt_irr (x : Acre.Fc) : ¬ Acre.Lt x x := fun h => Int.lt_irrefl _ h
theorem Lt_asy {x y : Acre.Fc} (h : Acre.Lt x y) : ¬ Acre.Lt y x := fun h' => by
  unfold Acre.Lt at h h'
  exact Int.lt_irrefl _ (Int.lt_trans h h')
/-- what has come of the cuts lies not behind the last of it -/
theorem come_iff {cs : List Acre.Fc} (hs : cs.Pairwise Acre.Lt) {k : Nat} (hk : k < cs.length) {x : Acre.Fc} (hx : x ∈ cs) : x ∈ cs.take (k + 1) ↔ ¬ Acre.Lt cs[k] x := by
  have hp := List.pairwise_iff_getElem.1 hs
  obtain ⟨j, hj, rfl⟩ := List.mem_iff_getElem.1 hx
  constructor
  · intro h
    obtain ⟨i, hi, e⟩ := List.mem_iff_getElem.1 h
    rw [List.length_take] at hi
    rw [List.getElem_take] at e
    rw [← e]
    by_cases hik : i = k
    · subst hik; exact Lt_irr _
    · exact Lt_asy (hp i k (by omega) hk (by omega))
  · intro h
    by_cases hjk : j ≤ k
    · exact List.mem_iff_getElem.2 ⟨j, by rw [List.length_take]; omega, by rw [List.getElem_take]⟩
    · exact absurd (hp k j hk hj (by omega)) h
theorem act_come {cs : List Acre.Fc} (hs : cs.Pairwise Acre.Lt) {k : Nat} (hk : k < cs.length) {p : Acre.Pc} (h1 : p.1.1 ∈ cs) (h2 : p.1.2 ∈ cs) : Acre.act p cs[k] = (if p.1.1 ∈ cs.take (k + 1) then 1 else 0) - (if p.1.2 ∈ cs.take (k + 1) then 1 else 0) := by
  unfold Acre.act
  have e1 := come_iff hs hk h1
  have e2 := come_iff hs hk h2
  by_cases a1 : Acre.Lt cs[k] p.1.1 <;> by_cases a2 : Acre.Lt cs[k] p.1.2 <;> simp [e1, e2, a1, a2]
/-- what the map of times has for a band, when those cuts have come -/
def comeT (ps : List Acre.Pc) (done : List Acre.Fc) (b : Acre.Ed × Acre.Ed) : Int := (ps.map (fun p => if p.2 = b then (if p.1.1 ∈ done then 1 else 0) - (if p.1.2 ∈ done then 1 else 0) else 0)).sum
/-- is there such a key? -/
def comeK (ps : List Acre.Pc) (done : List Acre.Fc) (b : Acre.Ed × Acre.Ed) : Bool := ps.any (fun p => decide (p.2 = b) && (decide (p.1.1 ∈ done) || decide (p.1.2 ∈ done)))
theorem comeT_band {cs : List Acre.Fc} (hs : cs.Pairwise Acre.Lt) {k : Nat} (hk : k < cs.length) {ps : List Acre.Pc} (h : ∀ p ∈ ps, p.1.1 ∈ cs ∧ p.1.2 ∈ cs) (b : Acre.Ed × Acre.Ed) : comeT ps (cs.take (k + 1)) b = bandT ps cs[k] b := by
  unfold comeT bandT
  congr 1
  refine List.map_congr_left fun p hp => ?_
  split
  · exact (act_come hs hk (h p hp).1 (h p hp).2).symm
  · rfl
theorem comeK_act {cs : List Acre.Fc} (hs : cs.Pairwise Acre.Lt) {k : Nat} (hk : k < cs.length) {ps : List Acre.Pc} (h : ∀ p ∈ ps, p.1.1 ∈ cs ∧ p.1.2 ∈ cs) {p : Acre.Pc} (hp : p ∈ ps) (hn : comeK ps (cs.take (k + 1)) p.2 = false) : Acre.act p cs[k] = 0 := by
  unfold comeK at hn
  rw [List.any_eq_false] at hn
  have := hn p hp
  simp at this
  rw [act_come hs hk (h p hp).1 (h p hp).2, if_neg this.1, if_neg this.2]
  rfl
theorem comeT_none {ps : List Acre.Pc} {done : List Acre.Fc} {b : Acre.Ed × Acre.Ed} (hn : comeK ps done b = false) : comeT ps done b = 0 := by
  unfold comeT
  have : ∀ p ∈ ps, (if p.2 = b then (if p.1.1 ∈ done then (1 : Int) else 0) - (if p.1.2 ∈ done then 1 else 0) else 0) = 0 := by
    intro p hp
    unfold comeK at hn
    rw [List.any_eq_false] at hn
    have := hn p hp
    split
    · rename_i e
      simp [e] at this
      rw [if_neg this.1, if_neg this.2]
      rfl
    · rfl
  rw [List.map_congr_left this]
  clear this hn
  induction ps with
  | nil => rfl
  | cons a r ih => rw [List.map_cons, List.sum_cons, ih]; rfl

end Go.Proofs.YtkjlkbgdkdcboaaGreatDoor

namespace Go.Proofs.YtkjlkbgdkdcboaaGreatDoor

/-- the bands of the pieces that begin there, and of those that end there -/
def begB (ps : List Acre.Pc) (f : Acre.Fc) : List (Acre.Ed × Acre.Ed) := (ps.filter (fun p => decide (p.1.1 = f))).map (·.2)
def endB (ps : List Acre.Pc) (f : Acre.Fc) : List (Acre.Ed × Acre.Ed) := (ps.filter (fun p => decide (p.1.2 = f))).map (·.2)
theorem begB_snoc (ps : List Acre.Pc) (p : Acre.Pc) (f : Acre.Fc) : begB (ps ++ [p]) f = if p.1.1 = f then begB ps f ++ [p.2] else begB ps f := by
  unfold begB
  rw [List.filter_append, List.map_append]
  by_cases h : p.1.1 = f <;> simp [h]
theorem endB_snoc (ps : List Acre.Pc) (p : Acre.Pc) (f : Acre.Fc) : endB (ps ++ [p]) f = if p.1.2 = f then endB ps f ++ [p.2] else endB ps f := by
  unfold endB
  rw [List.filter_append, List.map_append]
  by_cases h : p.1.2 = f <;> simp [h]
theorem begB_cons (ps : List Acre.Pc) (p : Acre.Pc) (f : Acre.Fc) : begB (p :: ps) f = if p.1.1 = f then p.2 :: begB ps f else begB ps f := by
  unfold begB
  by_cases h : p.1.1 = f <;> simp [h]
theorem endB_cons (ps : List Acre.Pc) (p : Acre.Pc) (f : Acre.Fc) : endB (p :: ps) f = if p.1.2 = f then p.2 :: endB ps f else endB ps f := by
  unfold endB
  by_cases h : p.1.2 = f <;> simp [h]
/-- one more cut -/
theorem comeT_next {done : List Acre.Fc} {f : Acre.Fc} (hf : f ∉ done) (b : Acre.Ed × Acre.Ed) : ∀ (ps : List Acre.Pc), comeT ps (done ++ [f]) b = comeT ps done b + (begB ps f).count b - (endB ps f).count b
  | [] => rfl
  | p :: ps => by
    have ih := comeT_next hf b ps
    have e : ∀ d, comeT (p :: ps) d b = (if p.2 = b then (if p.1.1 ∈ d then 1 else 0) - (if p.1.2 ∈ d then 1 else 0) else 0) + comeT ps d b := fun d => by
      unfold comeT; rw [List.map_cons, List.sum_cons]
    have m : ∀ x : Acre.Fc, (if x ∈ done ++ [f] then (1 : Int) else 0) = (if x ∈ done then 1 else 0) + (if x = f then 1 else 0) := by
      intro x
      by_cases hx : x = f
      · subst hx; simp [hf]
      · simp [hx]
    rw [e, e, ih, begB_cons, endB_cons, m, m]
    by_cases hb : p.2 = b
    · by_cases h1 : p.1.1 = f <;> by_cases h2 : p.1.2 = f <;> simp only [h1, h2, hb, if_true, if_false, List.count_cons_self] <;> push_cast <;> omega
    · by_cases h1 : p.1.1 = f <;> by_cases h2 : p.1.2 = f <;> simp [h1, h2, hb] <;> omega
theorem comeK_next (done : List Acre.Fc) (f : Acre.Fc) (b : Acre.Ed × Acre.Ed) (ps : List Acre.Pc) : comeK ps (done ++ [f]) b = (comeK ps done b || decide (b ∈ begB ps f) || decide (b ∈ endB ps f)) := by
  rw [Bool.eq_iff_iff]
  unfold comeK begB endB
  simp only [List.any_eq_true, Bool.and_eq_true, Bool.or_eq_true, decide_eq_true_eq, List.mem_append, List.mem_singleton, List.mem_map, List.mem_filter]
  constructor
  · rintro ⟨p, hp, rfl, (h | h) | (h | h)⟩
    · exact .inl (.inl ⟨p, hp, rfl, .inl h⟩)
    · exact .inl (.inr ⟨p, ⟨hp, h⟩, rfl⟩)
    · exact .inl (.inl ⟨p, hp, rfl, .inr h⟩)
    · exact .inr ⟨p, ⟨hp, h⟩, rfl⟩
  · rintro ((⟨p, hp, rfl, h | h⟩ | ⟨p, ⟨hp, h⟩, rfl⟩) | ⟨p, ⟨hp, h⟩, rfl⟩)
    · exact ⟨p, hp, rfl, .inl (.inl h)⟩
    · exact ⟨p, hp, rfl, .inr (.inl h)⟩
    · exact ⟨p, hp, rfl, .inl (.inr h)⟩
    · exact ⟨p, hp, rfl, .inr (.inr h)⟩
theorem comeT_bd (done : List Acre.Fc) (b : Acre.Ed × Acre.Ed) : ∀ (ps : List Acre.Pc), -(ps.length : Int) ≤ comeT ps done b ∧ comeT ps done b ≤ ps.length
  | [] => by simp [comeT]
  | p :: ps => by
    have ih := comeT_bd done b ps
    have e : comeT (p :: ps) done b = (if p.2 = b then (if p.1.1 ∈ done then 1 else 0) - (if p.1.2 ∈ done then 1 else 0) else 0) + comeT ps done b := by
      unfold comeT; rw [List.map_cons, List.sum_cons]
    rw [e, List.length_cons]
    push_cast
    split
    · split <;> split <;> omega
    · omega
theorem comeK_mem {ps : List Acre.Pc} {done : List Acre.Fc} {b : Acre.Ed × Acre.Ed} (h : comeK ps done b = true) : ∃ p ∈ ps, p.2 = b := by
  unfold comeK at h
  obtain ⟨p, hp, h2⟩ := List.any_eq_true.1 h
  simp at h2
  exact ⟨p, hp, h2.1⟩

end Go.Proofs.YtkjlkbgdkdcboaaGreatDoor

namespace Go.Proofs.YtkjlkbgdkdcboaaGreatDoor

abbrev Bd := Acre.Ed × Acre.Ed
/-- one band more, or less -/
def addB (d : Int) (T : Bd → Option Int) (b : Bd) : Bd → Option Int := fun c => if c = b then some ((T b).getD 0 + d) else T c
def addL (d : Int) (T : Bd → Option Int) (l : List Bd) : Bd → Option Int := l.foldl (addB d) T
theorem addL_snoc (d : Int) (T : Bd → Option Int) (l : List Bd) (b : Bd) : addL d T (l ++ [b]) = addB d (addL d T l) b := by
  unfold addL; rw [List.foldl_append]; rfl
theorem addL_take {d : Int} {T : Bd → Option Int} {l : List Bd} {k : Nat} (h : k < l.length) : addL d T (l.take (k + 1)) = addB d (addL d T (l.take k)) l[k] := by
  rw [List.take_add_one, List.getElem?_eq_getElem h]
  exact addL_snoc d T _ _
theorem addL_eq (d : Int) (T : Bd → Option Int) (c : Bd) : ∀ (l : List Bd), addL d T l c = if (T c).isSome = true ∨ c ∈ l then some ((T c).getD 0 + d * (l.count c : Nat)) else none := by
  intro l
  induction l generalizing T with
  | nil =>
    show T c = _
    cases h : T c <;> simp
  | cons b r ih =>
    show addL d (addB d T b) r c = _
    rw [ih]
    unfold addB
    by_cases e : c = b
    · subst e
      simp only [if_true, Option.isSome_some, true_or, Option.getD_some, List.mem_cons, or_true, List.count_cons_self]
      congr 1
      push_cast
      rw [Int.mul_add, Int.mul_one]
      omega
    · have e' : ¬ b = c := fun h => e h.symm
      simp [e, e']
theorem addL_bd {d : Int} {T : Bd → Option Int} {B : Int} (hd : -1 ≤ d ∧ d ≤ 1) (h : ∀ b, -B ≤ (T b).getD 0 ∧ (T b).getD 0 ≤ B) (l : List Bd) (c : Bd) : -(B + l.length) ≤ (addL d T l c).getD 0 ∧ (addL d T l c).getD 0 ≤ B + l.length := by
  rw [addL_eq]
  have hb := h c
  have h1 := List.count_le_length (a := c) (l := l)
  have hB : 0 ≤ B := by omega
  split
  · simp only [Option.getD_some]
    rcases (show d = -1 ∨ d = 0 ∨ d = 1 by omega) with rfl | rfl | rfl <;> omega
  · simp only [Option.getD_none]
    omega
/-- what the map of times has when those cuts have come -/
def timT (ps : List Acre.Pc) (done : List Acre.Fc) : Bd → Option Int := fun b => if comeK ps done b = true then some (comeT ps done b) else none
theorem timT_getD (ps : List Acre.Pc) (done : List Acre.Fc) (b : Bd) : (timT ps done b).getD 0 = comeT ps done b := by
  unfold timT
  cases h : comeK ps done b
  · rw [comeT_none h]; rfl
  · rfl
theorem timT_some (ps : List Acre.Pc) (done : List Acre.Fc) (b : Bd) : (timT ps done b).isSome = comeK ps done b := by
  unfold timT
  cases comeK ps done b <;> rfl
theorem timT_nil (ps : List Acre.Pc) : timT ps [] = fun _ => none := by
  funext b
  unfold timT comeK
  simp
theorem timT_next {ps : List Acre.Pc} {done : List Acre.Fc} {f : Acre.Fc} (hf : f ∉ done) : addL (-1) (addL 1 (timT ps done) (begB ps f)) (endB ps f) = timT ps (done ++ [f]) := by
  funext b
  rw [addL_eq]
  have e1 := addL_eq 1 (timT ps done) b (begB ps f)
  have hK := comeK_next done f b ps
  have hT := comeT_next hf b ps
  have hs : (addL 1 (timT ps done) (begB ps f) b).isSome = (comeK ps done b || decide (b ∈ begB ps f)) := by
    rw [e1, timT_some]
    cases comeK ps done b <;> by_cases hb : b ∈ begB ps f <;> simp [hb]
  have hg : (addL 1 (timT ps done) (begB ps f) b).getD 0 = comeT ps done b + ((begB ps f).count b : Nat) := by
    rw [e1, timT_some]
    split
    · rw [timT_getD]; simp
    · rename_i hn
      rw [not_or] at hn
      have h0 := comeT_none (ps := ps) (done := done) (b := b) (by simpa using hn.1)
      rw [h0, List.count_eq_zero.2 hn.2]
      rfl
  rw [hs, hg]
  show _ = if comeK ps (done ++ [f]) b = true then some (comeT ps (done ++ [f]) b) else none
  rw [hK, hT]
  have e : ((comeK ps done b || decide (b ∈ begB ps f)) = true ∨ b ∈ endB ps f) ↔ ((comeK ps done b || decide (b ∈ begB ps f) || decide (b ∈ endB ps f)) = true) := by simp
  by_cases h : (comeK ps done b || decide (b ∈ begB ps f)) = true ∨ b ∈ endB ps f
  · rw [if_pos h, if_pos (e.1 h)]
    congr 1
    omega
  · rw [if_neg h, if_neg (fun h' => h (e.2 h'))]
theorem timT_bd (ps : List Acre.Pc) (done : List Acre.Fc) (b : Bd) : -(ps.length : Int) ≤ (timT ps done b).getD 0 ∧ (timT ps done b).getD 0 ≤ ps.length := by
  rw [timT_getD]
  exact comeT_bd done b ps
/-- so many times has the map of times been turned -/
def cntE (ps : List Acre.Pc) (done : List Acre.Fc) : Nat := (done.map (fun f => (begB ps f).length + (endB ps f).length)).sum
theorem cntE_snoc (ps : List Acre.Pc) (done : List Acre.Fc) (f : Acre.Fc) : cntE ps (done ++ [f]) = cntE ps done + (begB ps f).length + (endB ps f).length := by
  unfold cntE
  rw [List.map_append, List.sum_append]
  simp
  omega
theorem begB_len (ps : List Acre.Pc) (p : Acre.Pc) (f : Acre.Fc) : (begB (p :: ps) f).length = (begB ps f).length + if f == p.1.1 then 1 else 0 := by
  rw [begB_cons]
  by_cases h : p.1.1 = f
  · subst h; simp
  · have : (f == p.1.1) = false := beq_eq_false_iff_ne.2 (fun e => h e.symm)
    rw [this, if_neg h]; simp
theorem endB_len (ps : List Acre.Pc) (p : Acre.Pc) (f : Acre.Fc) : (endB (p :: ps) f).length = (endB ps f).length + if f == p.1.2 then 1 else 0 := by
  rw [endB_cons]
  by_cases h : p.1.2 = f
  · subst h; simp
  · have : (f == p.1.2) = false := beq_eq_false_iff_ne.2 (fun e => h e.symm)
    rw [this, if_neg h]; simp
theorem cntE_cons (ps : List Acre.Pc) (p : Acre.Pc) : ∀ done : List Acre.Fc, cntE (p :: ps) done = cntE ps done + done.count p.1.1 + done.count p.1.2
  | [] => by simp [cntE]
  | f :: r => by
    have ih := cntE_cons ps p r
    unfold cntE at ih ⊢
    rw [List.map_cons, List.sum_cons, List.map_cons, List.sum_cons, ih, begB_len, endB_len, List.count_cons, List.count_cons]
    omega
theorem cntE_nil : ∀ done : List Acre.Fc, cntE [] done = 0
  | [] => rfl
  | f :: r => by
    have ih := cntE_nil r
    unfold cntE at ih ⊢
    rw [List.map_cons, List.sum_cons, ih]
    rfl
theorem cntE_le {done : List Acre.Fc} (hn : done.Nodup) : ∀ ps : List Acre.Pc, cntE ps done ≤ 2 * ps.length
  | [] => by rw [cntE_nil]; omega
  | p :: ps => by
    have ih := cntE_le hn ps
    have h1 := List.nodup_iff_count.1 hn p.1.1
    have h2 := List.nodup_iff_count.1 hn p.1.2
    rw [cntE_cons, List.length_cons]
    omega
theorem lt_nodup {cs : List Acre.Fc} (h : cs.Pairwise Acre.Lt) : cs.Nodup := by
  show List.Pairwise (· ≠ ·) cs
  exact h.imp (fun {a b} hab (e : a = b) => Lt_irr a (by subst e; exact hab))
theorem endsP_mem {ps : List Acre.Pc} {p : Acre.Pc} (h : p ∈ ps) : p.1.1 ∈ Acre.endsP ps ∧ p.1.2 ∈ Acre.endsP ps :=
  ⟨List.mem_flatMap.2 ⟨p, h, by simp⟩, List.mem_flatMap.2 ⟨p, h, by simp⟩⟩
theorem cutsP_more {E : List Acre.Ed} {more : List Acre.Fc} {x : Acre.Fc} (h : x ∈ more) : x ∈ Acre.cutsP E more := by
  unfold Acre.cutsP
  rw [Acre.mem_sortD]
  unfold Acre.cutL
  exact List.mem_append_left _ h
/-- at a slab the map of times says what the pieces say -/
theorem okS_times {E : List Acre.Ed} {kk : Nat} {op : Int} {t : Acre.Fc} {ks : List Bd} {ps : List Acre.Pc} {cs : List Acre.Fc} (hs : cs.Pairwise Acre.Lt) {k : Nat} (hk : k < cs.length) (hc : ∀ p ∈ ps, p.1.1 ∈ cs ∧ p.1.2 ∈ cs) (hn : ks.Nodup) (hall : ∀ b, (∃ p ∈ ps, p.2 = b) → (timT ps (cs.take (k + 1)) b).isSome = true → b ∈ ks) :
    okS E kk op cs[k] t ks (fun b => (timT ps (cs.take (k + 1)) b).getD 0) = Acre.slabOk E kk op ps cs[k] t := by
  refine okS_slab hn (fun b => by rw [timT_getD]; exact comeT_band hs hk hc b) (fun p hp => ?_)
  cases h : comeK ps (cs.take (k + 1)) p.2
  · exact .inr (comeK_act hs hk hc hp h)
  · exact .inl (hall p.2 ⟨p, hp, rfl⟩ (by rw [timT_some]; exact h))
theorem filled_all {E : List Acre.Ed} {kk : Nat} {op : Int} {ps : List Acre.Pc} (h : ∀ s ∈ Acre.adj (Acre.cutsP E (Acre.endsP ps)), Acre.slabOk E kk op ps s.1 s.2 = true) : Acre.filledP E kk op ps = true := by
  unfold Acre.filledP
  exact List.all_eq_true.2 h
theorem filled_not {E : List Acre.Ed} {kk : Nat} {op : Int} {ps : List Acre.Pc} {s : Acre.Fc × Acre.Fc} (hs : s ∈ Acre.adj (Acre.cutsP E (Acre.endsP ps))) (h : Acre.slabOk E kk op ps s.1 s.2 = false) : Acre.filledP E kk op ps = false := by
  unfold Acre.filledP
  exact List.all_eq_false.2 ⟨s, hs, by simp [h]⟩
/-- the next slab -/
theorem pre_next {cs : List Acre.Fc} {pre : List Sl} {x : Sl} (h : (pre ++ [x]).map (·.1) = (Acre.adj cs).take (pre ++ [x]).length) (hk : pre.length < cs.length - 1) :
    pre.map (·.1) = (Acre.adj cs).take pre.length ∧ ∃ (h1 : pre.length + 1 < cs.length), x.1 = (cs[pre.length], cs[pre.length + 1]) := by
  have h1 : pre.length + 1 < cs.length := by omega
  have e := adj_get cs pre.length h1
  rw [List.length_append, List.length_singleton, List.map_append, List.take_add_one, e] at h
  have hl : (pre.map (·.1)).length = ((Acre.adj cs).take pre.length).length := by
    rw [List.length_map, List.length_take, adj_len]; omega
  obtain ⟨p1, p2⟩ := List.append_inj h hl
  refine ⟨p1, h1, ?_⟩
  simpa using p2
theorem take_next {cs : List Acre.Fc} {k : Nat} (hk : k < cs.length) : cs.take (k + 1) = cs.take k ++ [cs[k]] := by
  rw [List.take_add_one, List.getElem?_eq_getElem hk]; rfl
theorem nodup_next {cs : List Acre.Fc} (hn : cs.Nodup) {k : Nat} (hk : k < cs.length) : cs[k] ∉ cs.take k := by
  intro h
  obtain ⟨i, hi, e⟩ := List.mem_iff_getElem.1 h
  rw [List.length_take] at hi
  rw [List.getElem_take] at e
  have := (List.getElem_inj hn).1 e
  omega

end Go.Proofs.YtkjlkbgdkdcboaaGreatDoor

