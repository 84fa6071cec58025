import Derived.Test.YtkjlkbgdkdcboaaWhere
import Derived.Test.YtkjlkbgdkdcboaaPlane5
namespace Go.Proofs.Ytkjlkbgdkdcboaa

theorem fieldOk3 {a b : Acre.Pt} (ha : Acre.onGrid a = true) (hb : Acre.onGrid b = true) : Acre.fieldOk [[a, b, a]] = true := by
  simp [Acre.fieldOk, Acre.ringOk, ha, hb]
theorem isOnE_up (e : Acre.Ed) (x y : Int × Int) : Acre.isOnE (Acre.up e) x y = Acre.isOnE e x y := by
  unfold Acre.up; split
  · exact Acre.onE_back e.1 e.2 x y
  · rfl
theorem where_of_on {a b : Acre.Pt} {x y : Int × Int} (ha : Acre.onGrid a = true) (hb : Acre.onGrid b = true) (hx : Acre.near x = true) (hy : Acre.near y = true) (ho : Acre.onE a.1 a.2 b.1 b.2 x.1 x.2 y.1 y.2 = true) : whereP [[a, b, a]] x y = (1, 0) := by
  refine whereP_on (e := Acre.up (a, b)) (by rw [fieldOk3 ha hb, hx, hy]; rfl) ?_ ?_
  · rw [List.mem_map]
    refine ⟨(a, b), ?_, rfl⟩
    simp [Acre.edgesOf, Acre.edgesTo, List.range, List.range.loop]
  · rw [isOnE_up]; exact ho

theorem grid_bd {p : Acre.Pt} (h : Acre.onGrid p = true) : (-12 ≤ p.1 ∧ p.1 ≤ 12) ∧ (-12 ≤ p.2 ∧ p.2 ≤ 12) := by
  unfold Acre.onGrid at h; simp at h; exact h

theorem near_mk {f : Int × Int} (h1 : 1 ≤ f.2) (h2 : f.2 ≤ 1152) (h3 : -(13 * f.2) ≤ f.1) (h4 : f.1 ≤ 13 * f.2) (h5 : Acre.g f.1 f.2 = 1) : Acre.near f = true := by
  unfold Acre.near
  rw [decide_eq_true h1, decide_eq_true h2, decide_eq_true h3, decide_eq_true h4, h5]; rfl

theorem btw_bd {N D a b : Int} (hD : 0 < D) (ha : -12 ≤ a ∧ a ≤ 12) (hb : -12 ≤ b ∧ b ≤ 12) (h : Acre.btw N D a b = true) : -(13 * D) ≤ N ∧ N ≤ 13 * D := by
  unfold Acre.btw at h
  rw [decide_eq_true_eq] at h
  have a1 := Int.mul_le_mul_of_nonneg_right ha.2 (Int.le_of_lt hD)
  have a2 := Int.mul_le_mul_of_nonneg_right ha.1 (Int.le_of_lt hD)
  have b1 := Int.mul_le_mul_of_nonneg_right hb.2 (Int.le_of_lt hD)
  have b2 := Int.mul_le_mul_of_nonneg_right hb.1 (Int.le_of_lt hD)
  omega

theorem tell_cases (l : List Acre.Pt) : (∃ p, p ∈ l ∧ Acre.tell l = (1, (p.1, 1), (p.2, 1))) ∨ Acre.tell l = (0, (0, 0), (0, 0)) ∨ Acre.tell l = (2, (0, 0), (0, 0)) := by
  match l with
  | [] => exact Or.inr (Or.inl rfl)
  | p :: r =>
    unfold Acre.tell
    simp only
    split
    · exact Or.inl ⟨p, by simp, rfl⟩
    · exact Or.inr (Or.inr rfl)

/-- what Meet answers -/
theorem meet_cases (a b c d : Acre.Pt) : (∃ x y, Acre.meet a b c d = (1, x, y) ∧ whereP [[a, b, a]] x y = (1, 0) ∧ whereP [[c, d, c]] x y = (1, 0)) ∨ Acre.meet a b c d = (0, (0, 0), (0, 0)) ∨ Acre.meet a b c d = (2, (0, 0), (0, 0)) := by
  unfold Acre.meet
  cases hG : [a, b, c, d].all Acre.onGrid
  · exact Or.inr (Or.inl rfl)
  · rw [if_pos rfl]
    simp only [List.all_cons, List.all_nil, Bool.and_true, Bool.and_eq_true] at hG
    obtain ⟨ha, hb, hc, hd⟩ := hG
    have ga := grid_bd ha
    have gb := grid_bd hb
    have gc := grid_bd hc
    have gd := grid_bd hd
    by_cases h0 : Acre.turn a b c d = 0
    · rw [if_pos h0]
      rcases tell_cases (Acre.endsOf a b c d) with ⟨p, hp, e⟩ | e | e
      · rw [e]
        refine Or.inl ⟨_, _, rfl, ?_⟩
        unfold Acre.endsOf at hp
        rw [List.mem_filter] at hp
        obtain ⟨hm, ho⟩ := hp
        unfold Acre.on2 at ho
        rw [Bool.and_eq_true] at ho
        have hpg : (-12 ≤ p.1 ∧ p.1 ≤ 12) ∧ (-12 ≤ p.2 ∧ p.2 ≤ 12) := by
          simp only [List.mem_cons, List.not_mem_nil, or_false] at hm
          rcases hm with rfl | rfl | rfl | rfl <;> assumption
        have nx : Acre.near (p.1, 1) = true := near_mk (by dsimp only; omega) (by dsimp only; omega) (by dsimp only; omega) (by dsimp only; omega) (by simp [Acre.g])
        have ny : Acre.near (p.2, 1) = true := near_mk (by dsimp only; omega) (by dsimp only; omega) (by dsimp only; omega) (by dsimp only; omega) (by simp [Acre.g])
        exact ⟨where_of_on ha hb nx ny ho.1, where_of_on hc hd nx ny ho.2⟩
      · exact Or.inr (Or.inl e)
      · exact Or.inr (Or.inr e)
    · rw [if_neg h0, Acre.across_ref a b c d h0 _ _ rfl rfl]
      split
      · rename_i ho
        rw [Bool.and_eq_true] at ho
        refine Or.inl ⟨_, _, rfl, ?_⟩
        have tb : -1152 ≤ Acre.turn a b c d ∧ Acre.turn a b c d ≤ 1152 := by
          unfold Acre.turn
          have t1 := Acre.mul_bd (b.1 - a.1) (d.2 - c.2) 24 24 (by omega) (by omega)
          have t2 := Acre.mul_bd (b.2 - a.2) (d.1 - c.1) 24 24 (by omega) (by omega)
          omega
        have hx2 := (Acre.low_bd (a.1 * Acre.turn a b c d + Acre.share a.1 a.2 c.1 c.2 d.1 d.2 * (b.1 - a.1)) (Acre.turn a b c d)).2
        have hy2 := (Acre.low_bd (a.2 * Acre.turn a b c d + Acre.share a.1 a.2 c.1 c.2 d.1 d.2 * (b.2 - a.2)) (Acre.turn a b c d)).2
        have hxp := (Acre.low_spec (a.1 * Acre.turn a b c d + Acre.share a.1 a.2 c.1 c.2 d.1 d.2 * (b.1 - a.1)) (Acre.turn a b c d) h0).1
        have hyp := (Acre.low_spec (a.2 * Acre.turn a b c d + Acre.share a.1 a.2 c.1 c.2 d.1 d.2 * (b.2 - a.2)) (Acre.turn a b c d) h0).1
        have hxg := Acre.low_gcd (a.1 * Acre.turn a b c d + Acre.share a.1 a.2 c.1 c.2 d.1 d.2 * (b.1 - a.1)) (Acre.turn a b c d) h0
        have hyg := Acre.low_gcd (a.2 * Acre.turn a b c d + Acre.share a.1 a.2 c.1 c.2 d.1 d.2 * (b.2 - a.2)) (Acre.turn a b c d) h0
        have ho1 := ho.1
        unfold Acre.onE at ho1
        rw [Bool.and_eq_true, Bool.and_eq_true] at ho1
        have bx := btw_bd hxp ga.1 gb.1 ho1.2.1
        have bz := btw_bd hyp ga.2 gb.2 ho1.2.2
        have nx : Acre.near (Acre.crossX a.1 a.2 b.1 c.1 c.2 d.1 d.2 (Acre.turn a b c d)) = true := near_mk (by unfold Acre.crossX; omega) (by unfold Acre.crossX; omega) bx.1 bx.2 hxg
        have ny : Acre.near (Acre.crossY a.1 a.2 b.2 c.1 c.2 d.1 d.2 (Acre.turn a b c d)) = true := near_mk (by unfold Acre.crossY; omega) (by unfold Acre.crossY; omega) bz.1 bz.2 hyg
        exact ⟨where_of_on ha hb nx ny ho.1, where_of_on hc hd nx ny ho.2⟩
      · exact Or.inr (Or.inl rfl)

theorem meet_known : Acre.meet (0, 0) (2, 2) (0, 2) (2, 0) = (1, (1, 1), (1, 1)) := by decide

end Go.Proofs.Ytkjlkbgdkdcboaa
