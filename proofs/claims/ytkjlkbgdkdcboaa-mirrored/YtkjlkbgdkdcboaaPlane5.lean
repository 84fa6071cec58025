import Derived.Test.YtkjlkbgdkdcboaaPlane4
namespace Go.Proofs.Ytkjlkbgdkdcboaa.Acre

theorem sgn_abs (d : Int) (h : d ≠ 0) : (sgn d).natAbs = 1 := by
  unfold sgn; split
  · rfl
  · rw [if_pos (by omega)]; rfl
theorem low_cop (n d : Int) (h : d ≠ 0) : Nat.Coprime (low n d).1.natAbs (low n d).2.natAbs := by
  have hk : (g n d * sgn d).natAbs = Nat.gcd n.natAbs d.natAbs := by
    rw [Int.natAbs_mul, sgn_abs d h, Nat.mul_one]; rfl
  show Nat.Coprime (n.tdiv (g n d * sgn d)).natAbs (d.tdiv (g n d * sgn d)).natAbs
  rw [Int.natAbs_tdiv, Int.natAbs_tdiv, hk]
  have hp : 0 < Nat.gcd n.natAbs d.natAbs := Nat.gcd_pos_of_pos_right _ (by omega)
  exact Nat.coprime_div_gcd_div_gcd hp
theorem low_gcd (n d : Int) (h : d ≠ 0) : g (low n d).1 (low n d).2 = 1 := by
  have := low_cop n d h
  unfold g Int.gcd
  rw [this]; rfl

/-- a fraction in lowest terms is told by its value -/
theorem low_eq (n d n' d' : Int) (h : d ≠ 0) (h' : d' ≠ 0) (e : n * d' = n' * d) : low n d = low n' d' := by
  obtain ⟨p1, c1⟩ := low_spec n d h
  obtain ⟨p2, c2⟩ := low_spec n' d' h'
  have k1 := low_cop n d h
  have k2 := low_cop n' d' h'
  generalize low n d = x at *
  generalize low n' d' = y at *
  have hx : x.1 * y.2 = y.1 * x.2 := by
    have : (d * d') * (x.1 * y.2 - y.1 * x.2) = 0 := by grind
    rcases Int.mul_eq_zero.1 this with h0 | h0
    · rcases Int.mul_eq_zero.1 h0 with h1 | h1 <;> contradiction
    · omega
  have e1 : x.1.natAbs * y.2.natAbs = y.1.natAbs * x.2.natAbs := by rw [← Int.natAbs_mul, ← Int.natAbs_mul, hx]
  have d1 : x.2.natAbs ∣ y.2.natAbs := by
    have : x.2.natAbs ∣ x.1.natAbs * y.2.natAbs := ⟨y.1.natAbs, by rw [e1, Nat.mul_comm]⟩
    exact (Nat.Coprime.symm k1).dvd_of_dvd_mul_left this
  have d2 : y.2.natAbs ∣ x.2.natAbs := by
    have : y.2.natAbs ∣ y.1.natAbs * x.2.natAbs := ⟨x.1.natAbs, by rw [← e1, Nat.mul_comm]⟩
    exact (Nat.Coprime.symm k2).dvd_of_dvd_mul_left this
  have e2 : x.2.natAbs = y.2.natAbs := Nat.dvd_antisymm d1 d2
  have e3 : x.2 = y.2 := by omega
  have e4 : x.1 = y.1 := by
    rw [e3] at hx
    exact Int.eq_of_mul_eq_mul_right (by omega) hx
  exact Prod.ext e4 e3

theorem turn_swap (a b c d : Pt) : turn c d a b = -turn a b c d := by unfold turn; grind
theorem turn_back (a b c d : Pt) : turn b a d c = turn a b c d := by unfold turn; grind

theorem crossX_swap (a b c d : Pt) (h : turn a b c d ≠ 0) : crossX c.1 c.2 d.1 a.1 a.2 b.1 b.2 (turn c d a b) = crossX a.1 a.2 b.1 c.1 c.2 d.1 d.2 (turn a b c d) := by
  rw [turn_swap]
  unfold crossX
  refine low_eq _ _ _ _ (by omega) h ?_
  unfold share turn; grind
theorem crossY_swap (a b c d : Pt) (h : turn a b c d ≠ 0) : crossY c.1 c.2 d.2 a.1 a.2 b.1 b.2 (turn c d a b) = crossY a.1 a.2 b.2 c.1 c.2 d.1 d.2 (turn a b c d) := by
  rw [turn_swap]
  unfold crossY
  refine low_eq _ _ _ _ (by omega) h ?_
  unfold share turn; grind
theorem crossX_back (a b c d : Pt) : crossX b.1 b.2 a.1 d.1 d.2 c.1 c.2 (turn b a d c) = crossX a.1 a.2 b.1 c.1 c.2 d.1 d.2 (turn a b c d) := by
  rw [turn_back]
  unfold crossX
  congr 1
  unfold share turn; grind
theorem crossY_back (a b c d : Pt) : crossY b.1 b.2 a.2 d.1 d.2 c.1 c.2 (turn b a d c) = crossY a.1 a.2 b.2 c.1 c.2 d.1 d.2 (turn a b c d) := by
  rw [turn_back]
  unfold crossY
  congr 1
  unfold share turn; grind

theorem boxed_back (a1 a2 b1 b2 : Int) (x y : Int × Int) : boxed b1 b2 a1 a2 x y = boxed a1 a2 b1 b2 x y := by
  unfold boxed; rw [btw_swap x.1 x.2 b1 a1, btw_swap y.1 y.2 b2 a2]

theorem across_swap (a b c d : Pt) (h : turn a b c d ≠ 0) : across c.1 c.2 d.1 d.2 a.1 a.2 b.1 b.2 (turn c d a b) = across a.1 a.2 b.1 b.2 c.1 c.2 d.1 d.2 (turn a b c d) := by
  rw [across_eq c.1 c.2 d.1 d.2 a.1 a.2 b.1 b.2 (turn c d a b) _ _ (crossX_swap a b c d h) (crossY_swap a b c d h), across_eq a.1 a.2 b.1 b.2 c.1 c.2 d.1 d.2 (turn a b c d) _ _ rfl rfl, Bool.and_comm]
theorem across_back (a b c d : Pt) : across b.1 b.2 a.1 a.2 d.1 d.2 c.1 c.2 (turn b a d c) = across a.1 a.2 b.1 b.2 c.1 c.2 d.1 d.2 (turn a b c d) := by
  rw [across_eq b.1 b.2 a.1 a.2 d.1 d.2 c.1 c.2 (turn b a d c) _ _ (crossX_back a b c d) (crossY_back a b c d), across_eq a.1 a.2 b.1 b.2 c.1 c.2 d.1 d.2 (turn a b c d) _ _ rfl rfl, boxed_back a.1 a.2 b.1 b.2, boxed_back c.1 c.2 d.1 d.2]

theorem Diff.ex : ∀ l : List Pt, ∃ u, Diff l u
  | [] => ⟨[], Diff.nil⟩
  | p :: r => by
    obtain ⟨u, h⟩ := Diff.ex r
    by_cases hp : p ∈ u
    · exact ⟨u, h.nodup, fun q => by rw [List.mem_cons, ← h.mem]; exact ⟨Or.inr, fun k => k.elim (fun e => e ▸ hp) id⟩⟩
    · exact ⟨p :: u, List.nodup_cons.2 ⟨hp, h.nodup⟩, fun q => by rw [List.mem_cons, List.mem_cons, h.mem]⟩

theorem tell_same {l l' : List Pt} (h : ∀ p, p ∈ l ↔ p ∈ l') : tell l = tell l' := by
  obtain ⟨u, hu⟩ := Diff.ex l
  have hu' : Diff l' u := ⟨hu.nodup, fun p => by rw [hu.mem, h]⟩
  by_cases h0 : u.length = 0
  · rw [tell_none hu h0, tell_none hu' h0]
  · by_cases h1 : u.length = 1
    · obtain ⟨q, rfl⟩ := List.length_eq_one_iff.1 h1
      have last : ∀ {m : List Pt}, Diff m [q] → m.getLast? = some q := fun {m} hm => by
        cases e : m.getLast? with
        | none =>
          rw [List.getLast?_eq_none_iff] at e
          have := (hm.mem q).1 (by simp)
          rw [e] at this; simp at this
        | some p =>
          have := (hm.mem p).2 (List.mem_of_getLast? e)
          simp at this; rw [this]
      rw [tell_one hu h1 (last hu), tell_one hu' h1 (last hu')]
    · rw [tell_more hu h0 h1, tell_more hu' h0 h1]

theorem sd_back (a b : Pt) (x y : Int × Int) : (sd b.1 b.2 a.1 a.2 x.1 x.2 y.1 y.2 == 0) = (sd a.1 a.2 b.1 b.2 x.1 x.2 y.1 y.2 == 0) := by
  rw [Bool.eq_iff_iff, beq_iff_eq, beq_iff_eq]
  unfold sd
  rw [sgn_iff, sgn_iff]
  constructor <;> intro h <;> grind
theorem onE_back (a b : Pt) (x y : Int × Int) : onE b.1 b.2 a.1 a.2 x.1 x.2 y.1 y.2 = onE a.1 a.2 b.1 b.2 x.1 x.2 y.1 y.2 := by
  unfold onE
  rw [sd_back, btw_swap x.1 x.2 b.1 a.1, btw_swap y.1 y.2 b.2 a.2]

theorem ends_swap (a b c d : Pt) : tell (endsOf c d a b) = tell (endsOf a b c d) := by
  apply tell_same
  intro p
  unfold endsOf
  rw [List.mem_filter, List.mem_filter]
  unfold on2
  rw [Bool.and_comm]
  simp only [List.mem_cons, List.not_mem_nil, or_false]
  constructor <;> rintro ⟨h, k⟩ <;> exact ⟨by rcases h with h | h | h | h <;> simp [h], k⟩
theorem ends_back (a b c d : Pt) : tell (endsOf b a d c) = tell (endsOf a b c d) := by
  apply tell_same
  intro p
  unfold endsOf
  rw [List.mem_filter, List.mem_filter]
  have e : on2 b a d c p = on2 a b c d p := by
    unfold on2
    rw [onE_back a b (p.1, 1) (p.2, 1), onE_back c d (p.1, 1) (p.2, 1)]
  rw [e]
  simp only [List.mem_cons, List.not_mem_nil, or_false]
  constructor <;> rintro ⟨h, k⟩ <;> exact ⟨by rcases h with h | h | h | h <;> simp [h], k⟩

theorem grid_swap (a b c d : Pt) : [c, d, a, b].all onGrid = [a, b, c, d].all onGrid := by
  simp only [List.all_cons, List.all_nil, Bool.and_true]
  cases onGrid a <;> cases onGrid b <;> cases onGrid c <;> cases onGrid d <;> rfl
theorem grid_back (a b c d : Pt) : [b, a, d, c].all onGrid = [a, b, c, d].all onGrid := by
  simp only [List.all_cons, List.all_nil, Bool.and_true]
  cases onGrid a <;> cases onGrid b <;> cases onGrid c <;> cases onGrid d <;> rfl

theorem meet_swap (a b c d : Pt) : meet c d a b = meet a b c d := by
  unfold meet
  rw [grid_swap, ends_swap]
  by_cases h : turn a b c d = 0
  · rw [if_pos h, if_pos (show turn c d a b = 0 by rw [turn_swap, h]; rfl)]
  · rw [if_neg h, if_neg (show turn c d a b ≠ 0 by rw [turn_swap]; omega), across_swap a b c d h]
theorem meet_back (a b c d : Pt) : meet b a d c = meet a b c d := by
  unfold meet
  rw [grid_back, ends_back, turn_back, ← turn_back a b c d, across_back, turn_back]

end Go.Proofs.Ytkjlkbgdkdcboaa.Acre
