import Derived.Test.YtkjlkbgdkdcboaaWalksF
namespace Go.Proofs.Ytkjlkbgdkdcboaa
open Go.RowKit Go.Maps
attribute [local go_sem ↓] Go.wp_at_zero Go.wp_at_succ

theorem grid_sm {p : Acre.Pt} (h : Acre.onGrid p = true) : Sm p.1 ∧ Sm p.2 := by
  unfold Acre.onGrid at h; simp at h; exact ⟨⟨by omega, by omega⟩, ⟨by omega, by omega⟩⟩

theorem areOnGrid4 (a1 a2 b1 b2 c1 c2 d1 d2 : Int) (b : Nat) (w : World)
    (k : w.cell? ⟨b, 0, none⟩ = some (.int .i64 a1) ∧ w.cell? ⟨b, 1, none⟩ = some (.int .i64 a2) ∧ w.cell? ⟨b, 2, none⟩ = some (.int .i64 b1) ∧ w.cell? ⟨b, 3, none⟩ = some (.int .i64 b2) ∧ w.cell? ⟨b, 4, none⟩ = some (.int .i64 c1) ∧ w.cell? ⟨b, 5, none⟩ = some (.int .i64 c2) ∧ w.cell? ⟨b, 6, none⟩ = some (.int .i64 d1) ∧ w.cell? ⟨b, 7, none⟩ = some (.int .i64 d2)) :
    Calls Try.prog 33 #[.slice (some ⟨b, 0, none⟩) 4 4] w fun e w' => e = .returned (.bool ([((a1, a2) : Acre.Pt), (b1, b2), (c1, c2), (d1, d2)].all Acre.onGrid)) ∧ Below w.heap.size w w' := by
  obtain ⟨k0, k1, k2, k3, k4, k5, k6, k7⟩ := k
  refine areOnGrid_any [(a1, a2), (b1, b2), (c1, c2), (d1, d2)] b 0 4 w (by simp) ?_ (World.block_lt_of_cell? _ _ k0)
  intro j hj
  match j, hj with
  | 0, _ => exact ⟨k0, k1⟩
  | 1, _ => exact ⟨k2, k3⟩
  | 2, _ => exact ⟨k4, k5⟩
  | 3, _ => exact ⟨k6, k7⟩

theorem meet_no {a b c d : Acre.Pt} (h : [a, b, c, d].all Acre.onGrid = false) : Acre.meet a b c d = (0, (0, 0), (0, 0)) := by
  unfold Acre.meet; rw [h]; rfl
theorem meet_across {a b c d : Acre.Pt} (h : [a, b, c, d].all Acre.onGrid = true) (h0 : Acre.turn a b c d ≠ 0) : Acre.meet a b c d = Acre.across a.1 a.2 b.1 b.2 c.1 c.2 d.1 d.2 (Acre.turn a b c d) := by
  unfold Acre.meet; rw [if_pos h, if_neg h0]
theorem meet_along {a b c d : Acre.Pt} (h : [a, b, c, d].all Acre.onGrid = true) (h0 : Acre.turn a b c d = 0) : Acre.meet a b c d = Acre.tell (Acre.endsOf a b c d) := by
  unfold Acre.meet; rw [if_pos h, if_pos h0]

set_option maxHeartbeats 2000000 in
theorem meet_any (a1 a2 b1 b2 c1 c2 d1 d2 : Int) (w : World) :
    Calls Try.prog 15 #[.agg #[.int .i64 a1, .int .i64 a2, .int .i64 b1, .int .i64 b2], .agg #[.int .i64 c1, .int .i64 c2, .int .i64 d1, .int .i64 d2]] w fun e w' => e = .returned (resV (Acre.meet (a1, a2) (b1, b2) (c1, c2) (d1, d2))) ∧ Below w.heap.size w w' := by
  have m0 := M8.start w a1 a2 b1 b2 c1 c2 d1 d2 46 46 37 37
  have q0 := below4 w (.cells #[.int .i64 a1, .int .i64 a2, .int .i64 b1, .int .i64 b2] 46) (.cells #[.int .i64 c1, .int .i64 c2, .int .i64 d1, .int .i64 d2] 46) (.cells #[.int .i64 0, .int .i64 0] 37) (.cells #[.int .i64 0, .int .i64 0] 37)
  go_enter Try.func15, Try.ntmps15
  go_wp2_with fail
  refine (areOnGrid4 a1 a2 b1 b2 c1 c2 d1 d2 _ _ (by simp [go_sem])).mono ?_
  rintro e w1 ⟨rfl, hb1⟩
  have m1 := (m0.later (below1 _ _)).later hb1
  have q1 := below_call hb1 (below_call (below1 _ _) q0)
  clear m0 q0 hb1
  cases hG : [((a1, a2) : Acre.Pt), (b1, b2), (c1, c2), (d1, d2)].all Acre.onGrid
  · have hm : Hid _ := meet_no hG
    clear hG
    obtain ⟨lt0, lt1, lt2, lt3, _, _, _, _, _, _, _, _, r0, r1, s0, s1, f0, f1, g0, g1⟩ := id m1
    go_wp2
    refine bodyPost_ret (v := resV (0, (0, 0), (0, 0))) ?_ rfl ⟨?_, ?_⟩
    · simp [results, Try.results15, go_sem, resV, r0, r1, s0, s1]
    · rw [hm.out]
    · exact (((q1.setCell (by dsimp only; omega) _).setCell (by dsimp only; omega) _).setCell (by dsimp only; omega) _).setCell (by dsimp only; omega) _
  · have hg4 : (Acre.onGrid (a1, a2) = true ∧ Acre.onGrid (b1, b2) = true) ∧ Acre.onGrid (c1, c2) = true ∧ Acre.onGrid (d1, d2) = true := by
      simp only [List.all_cons, List.all_nil, Bool.and_true, Bool.and_eq_true] at hG
      exact ⟨⟨hG.1, hG.2.1⟩, hG.2.2.1, hG.2.2.2⟩
    obtain ⟨h1, h2⟩ := grid_sm hg4.1.1
    obtain ⟨h3, h4⟩ := grid_sm hg4.1.2
    obtain ⟨h5, h6⟩ := grid_sm hg4.2.1
    obtain ⟨h7, h8⟩ := grid_sm hg4.2.2
    dsimp only at h1 h2 h3 h4 h5 h6 h7 h8
    have HG : Hid _ := hG
    clear hg4 hG
    have t1 := Acre.mul_bd (b1 - a1) (d2 - c2) 26 26 (by omega) (by omega)
    have t2 := Acre.mul_bd (b2 - a2) (d1 - c1) 26 26 (by omega) (by omega)
    obtain ⟨lt0, lt1, lt2, lt3, e0, e1, e2, e3, k0, k1, k2, k3, r0, r1, s0, s1, f0, f1, g0, g1⟩ := id m1
    go_wp2_with fail
    go_region_held3 (fun w' => w'.cell? ⟨w.heap.size, 0, none⟩ = some (.int .i64 a1) ∧ w'.cell? ⟨w.heap.size, 1, none⟩ = some (.int .i64 a2) ∧ w'.cell? ⟨w.heap.size, 2, none⟩ = some (.int .i64 b1) ∧ w'.cell? ⟨w.heap.size, 3, none⟩ = some (.int .i64 b2) ∧ w'.cell? ⟨w.heap.size + 1, 0, none⟩ = some (.int .i64 c1) ∧ w'.cell? ⟨w.heap.size + 1, 1, none⟩ = some (.int .i64 c2) ∧ w'.cell? ⟨w.heap.size + 1, 2, none⟩ = some (.int .i64 d1) ∧ w'.cell? ⟨w.heap.size + 1, 3, none⟩ = some (.int .i64 d2) ∧ Below w1.heap.size w1 w')
      ((go_split_ands; refine ⟨?_, ?_, ?_, ?_, ?_, ?_, ?_, ?_, ?_⟩ <;> first | assumption | exact Below.drew (Below.refl _ _) | exact cell_later (by assumption) (by assumption) | exact below_call (by assumption) (by assumption)))
      (first | (go_at_call 35; refine (along_any _ _ _ _ _ ?_ ?_).mono ?_; omega; omega; rintro e w' ⟨rfl, hb⟩) | (go_at_call 34; refine (cross_any _ _ _ _ _ ?_ ?_).mono ?_; omega; omega; rintro e w' ⟨rfl, hb⟩))
    go_split_ands
    have hW' : Below w1.heap.size w1 w' := by assumption
    have m3 := m1.later hW'
    have q3 := below_call hW' q1
    obtain ⟨_, _, _, _, e03, e13, e23, e33, k03, k13, k23, k33, _, _, _, _, _, _, _, _⟩ := id m3
    by_cases h0 : Acre.turn (a1, a2) (b1, b2) (c1, c2) (d1, d2) = 0
    · have hm : Hid _ := meet_along HG.out h0
      have h0' : (b1 - a1) * (d2 - c2) - (b2 - a2) * (d1 - c1) = 0 := h0
      have h0b : ((b1 - a1) * (d2 - c2) - (b2 - a2) * (d1 - c1) != 0) = false := by rw [h0']; rfl
      clear h0 h0'
      go_wp2_with fail
      refine (meetAlong_any _ _ _ _ _ _ _ _ _ ⟨by omega, by omega⟩ ⟨by omega, by omega⟩ ⟨by omega, by omega⟩ ⟨by omega, by omega⟩ ⟨by omega, by omega⟩ ⟨by omega, by omega⟩ ⟨by omega, by omega⟩ ⟨by omega, by omega⟩).mono ?_
      rintro e w4 ⟨rfl, hb4⟩
      rw [← hm.out]
      obtain ⟨r, hr⟩ : ∃ r, Acre.meet (a1, a2) (b1, b2) (c1, c2) (d1, d2) = r := ⟨_, rfl⟩
      have Hr : Hid _ := hr
      rw [hr]
      clear hr
      have m4 := m3.later hb4
      have q4 := below_call hb4 q3
      obtain ⟨lt04, lt14, lt24, lt34, _, _, _, _, _, _, _, _, r04, r14, s04, s14, f04, f14, g04, g14⟩ := id m4
      unfold resV
      go_wp2
      refine bodyPost_ret (v := resV r) ?_ rfl ⟨by rw [Hr.out], ?_⟩
      · simp [results, Try.results15, go_sem, resV, r04, r14, s04, s14]
      · exact (((q4.setCell (by dsimp only; omega) _).setCell (by dsimp only; omega) _).setCell (by dsimp only; omega) _).setCell (by dsimp only; omega) _
    · have hm : Hid _ := meet_across HG.out h0
      have h0b : ((b1 - a1) * (d2 - c2) - (b2 - a2) * (d1 - c1) != 0) = true := by rw [bne_iff_ne]; exact h0
      have h0c : (b1 - a1) * (d2 - c2) - (b2 - a2) * (d1 - c1) ≠ 0 := h0
      have H0 : Hid _ := h0c
      clear h0 h0c
      go_wp2_with fail
      refine (meetAcross_any _ _ _ _ _ _ _ _ _ _ ⟨by omega, by omega⟩ ⟨by omega, by omega⟩ ⟨by omega, by omega⟩ ⟨by omega, by omega⟩ ⟨by omega, by omega⟩ ⟨by omega, by omega⟩ ⟨by omega, by omega⟩ ⟨by omega, by omega⟩ ⟨by omega, by omega⟩ H0.out).mono ?_
      rintro e w4 ⟨rfl, hb4⟩
      have hm' := hm.out
      unfold Acre.turn at hm'
      dsimp only at hm'
      rw [← hm']
      clear hm' hm
      obtain ⟨r, hr⟩ : ∃ r, Acre.meet (a1, a2) (b1, b2) (c1, c2) (d1, d2) = r := ⟨_, rfl⟩
      have Hr : Hid _ := hr
      rw [hr]
      clear hr
      have m4 := m3.later hb4
      have q4 := below_call hb4 q3
      obtain ⟨lt04, lt14, lt24, lt34, _, _, _, _, _, _, _, _, r04, r14, s04, s14, f04, f14, g04, g14⟩ := id m4
      unfold resV
      go_wp2
      refine bodyPost_ret (v := resV r) ?_ rfl ⟨by rw [Hr.out], ?_⟩
      · simp [results, Try.results15, go_sem, resV, r04, r14, s04, s14]
      · exact (((q4.setCell (by dsimp only; omega) _).setCell (by dsimp only; omega) _).setCell (by dsimp only; omega) _).setCell (by dsimp only; omega) _

end Go.Proofs.Ytkjlkbgdkdcboaa
