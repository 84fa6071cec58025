import Derived.Test.YtkjlkbgdkdcboaaMir
import Derived.Test.YtkjlkbgdkdcboaaWalksG
import Derived.Test.YtkjlkbgdkdcboaaEnds
namespace Go.Proofs.Ytkjlkbgdkdcboaa
open Go.RowKit Go.Maps
attribute [local go_sem ↓] Go.wp_at_zero Go.wp_at_succ

set_option maxRecDepth 100000 in
theorem neq37 (u v x y : Int) (w' : World) : (binOp .neq 37 (.agg #[.int .i64 u, .int .i64 v]) (.agg #[.int .i64 x, .int .i64 y])).run Try.prog w' = .ok (.bool (!(u == x && v == y))) w' := by
  go_simp
  by_cases h1 : u = x <;> by_cases h2 : v = y <;> simp [h1, h2]
set_option maxRecDepth 100000 in
theorem eql37 (u v x y : Int) (w' : World) : (binOp .eql 37 (.agg #[.int .i64 u, .int .i64 v]) (.agg #[.int .i64 x, .int .i64 y])).run Try.prog w' = .ok (.bool (u == x && v == y)) w' := by
  go_simp
  by_cases h1 : u = x <;> by_cases h2 : v = y <;> simp [h1, h2]

set_option maxHeartbeats 400000 in
theorem num_any (n : Int) (w : World) : Calls Try.prog 11 #[.int .i64 n] w fun e w' => e = .returned (.int .i64 n) ∧ w' = w := by
  go_enter Try.func11, Try.ntmps11
  go_wp2
  go_ret
  exact ⟨rfl, rfl⟩

abbrev tupV (n : Int) (x y : Int × Int) : Value := .tuple #[.int .i64 n, .agg #[.int .i64 x.1, .int .i64 x.2], .agg #[.int .i64 y.1, .int .i64 y.2]]

theorem k15_of {a b c d : Acre.Pt} {n : Int} {x y : Int × Int} (h : Acre.meet a b c d = (n, x, y)) (W : World) :
    Calls Try.prog 15 #[.agg #[.int .i64 a.1, .int .i64 a.2, .int .i64 b.1, .int .i64 b.2], .agg #[.int .i64 c.1, .int .i64 c.2, .int .i64 d.1, .int .i64 d.2]] W fun e w' => e = .returned (tupV n x y) ∧ Below W.heap.size W w' := by
  have := meet_any a.1 a.2 b.1 b.2 c.1 c.2 d.1 d.2 W
  rw [h] at this
  exact this

/-- a list of one ring of three points, as it is built -/
theorem rings1 {V : World} {p q : Nat} {a1 a2 b1 b2 : Int} (h : V.cell? ⟨q, 0, none⟩ = some (.slice (some ⟨p, 0, none⟩) 3 3)) (h0 : V.cell? ⟨p, 0, none⟩ = some (.int .i64 a1)) (h1 : V.cell? ⟨p, 1, none⟩ = some (.int .i64 a2)) (h2 : V.cell? ⟨p, 2, none⟩ = some (.int .i64 b1)) (h3 : V.cell? ⟨p, 3, none⟩ = some (.int .i64 b2)) (h4 : V.cell? ⟨p, 4, none⟩ = some (.int .i64 a1)) (h5 : V.cell? ⟨p, 5, none⟩ = some (.int .i64 a2)) :
    Rings V (.slice (some ⟨q, 0, none⟩) 1 1) [[(a1, a2), (b1, b2), (a1, a2)]] := by
  refine ⟨_, q, 0, 1, rfl, fun _ => rfl, ?_⟩
  intro i hi
  match i, hi with
  | 0, _ =>
    refine ⟨.slice (some ⟨p, 0, none⟩) 3 3, h, _, p, 0, 3, rfl, fun _ => ⟨rfl, World.block_lt_of_cell? _ _ h0⟩, ?_⟩
    intro k hk
    match k, hk with
    | 0, _ => exact ⟨h0, h1⟩
    | 1, _ => exact ⟨h2, h3⟩
    | 2, _ => exact ⟨h4, h5⟩

set_option maxRecDepth 100000 in
set_option maxHeartbeats 4000000 in
theorem mirrored_walk (a1 a2 b1 b2 c1 c2 d1 d2 : Int) (w : World) :
    Calls Try.prog 6 #[.agg #[.int .i64 a1, .int .i64 a2, .int .i64 b1, .int .i64 b2], .agg #[.int .i64 c1, .int .i64 c2, .int .i64 d1, .int .i64 d2]] w fun e w' => e = .returned (.bool true) ∧ Below w.heap.size w w' := by
  have m0 := E2.start w a1 a2 b1 b2 c1 c2 d1 d2 46 46
  have q0 := below2 w (.cells #[.int .i64 a1, .int .i64 a2, .int .i64 b1, .int .i64 b2] 46) (.cells #[.int .i64 c1, .int .i64 c2, .int .i64 d1, .int .i64 d2] 46)
  have hne := neq37
  have heq := eql37
  obtain ⟨n, x, y, hr, hcase⟩ : ∃ n x y, Acre.meet (a1, a2) (b1, b2) (c1, c2) (d1, d2) = (n, x, y) ∧ ((n = 1 ∧ whereP [[(a1, a2), (b1, b2), (a1, a2)]] x y = (1, 0) ∧ whereP [[(c1, c2), (d1, d2), (c1, c2)]] x y = (1, 0)) ∨ ((n = 0 ∨ n = 2) ∧ x = (0, 0) ∧ y = (0, 0))) := by
    rcases meet_cases (a1, a2) (b1, b2) (c1, c2) (d1, d2) with ⟨x, y, e, h1, h2⟩ | e | e
    · exact ⟨1, x, y, e, Or.inl ⟨rfl, h1, h2⟩⟩
    · exact ⟨0, (0, 0), (0, 0), e, Or.inr ⟨Or.inl rfl, rfl, rfl⟩⟩
    · exact ⟨2, (0, 0), (0, 0), e, Or.inr ⟨Or.inr rfl, rfl, rfl⟩⟩
  have Hc : Hid _ := hcase
  have H0 : Hid (∀ W : World, _) := k15_of meet_known
  have H1 : Hid (∀ W : World, _) := k15_of hr
  have H2 : Hid (∀ W : World, _) := k15_of ((Acre.meet_swap _ _ _ _).trans hr)
  have H3 : Hid (∀ W : World, _) := k15_of ((Acre.meet_back _ _ _ _).trans hr)
  clear hr hcase
  dsimp only at H0 H1 H2 H3
  go_enter Try.func6, Try.ntmps6
  go_wp2_with fail
  refine (H0.out _).mono ?_
  rintro e w1 ⟨rfl, hb1⟩
  have m1 := (m0.later hb1).later (below2 _ (.cells #[.int .i64 1, .int .i64 1] 37) (.cells #[.int .i64 1, .int .i64 1] 37))
  have q1 := below_call (below2 w1 (.cells #[.int .i64 1, .int .i64 1] 37) (.cells #[.int .i64 1, .int .i64 1] 37)) (below_call hb1 q0)
  obtain ⟨l0, l1, e0, e1, e2, e3, k0, k1, k2, k3⟩ := id (m0.later hb1)
  go_wp2_with fail
  clear l0 l1 e0 e1 e2 e3 k0 k1 k2 k3
  refine (H1.out _).mono ?_
  rintro e w2 ⟨rfl, hb2⟩
  have m2 := m1.later hb2
  have q2 := below_call hb2 q1
  have f2 := FB.start w2 x y 37 37
  have s2 := below2 w2 (.cells #[.int .i64 x.1, .int .i64 x.2] 37) (.cells #[.int .i64 y.1, .int .i64 y.2] 37)
  clear m0 q0 hb1 hb2 m1 q1
  obtain ⟨l0, l1, e0, e1, e2, e3, k0, k1, k2, k3⟩ := id m2
  go_wp2_with fail
  clear l0 l1 e0 e1 e2 e3 k0 k1 k2 k3
  refine (H2.out _).mono ?_
  rintro e w3 ⟨rfl, hb3⟩
  have m3 := (m2.later s2).later hb3
  have q3 := below_call hb3 (below_call s2 q2)
  have fx3 := f2.later hb3
  have f3 := FB.start w3 x y 37 37
  have s3 := below2 w3 (.cells #[.int .i64 x.1, .int .i64 x.2] 37) (.cells #[.int .i64 y.1, .int .i64 y.2] 37)
  clear m2 q2 f2 s2 hb3
  obtain ⟨l0, l1, e0, e1, e2, e3, k0, k1, k2, k3⟩ := id m3
  go_wp2_with fail
  clear l0 l1 e0 e1 e2 e3 k0 k1 k2 k3
  refine (H3.out _).mono ?_
  rintro e w4 ⟨rfl, hb4⟩
  have m4 := (m3.later s3).later hb4
  have q4 := below_call hb4 (below_call s3 q3)
  have fx4 := (fx3.later s3).later hb4
  have fu4 := f3.later hb4
  have f4 := FB.start w4 x y 37 37
  have s4 := below2 w4 (.cells #[.int .i64 x.1, .int .i64 x.2] 37) (.cells #[.int .i64 y.1, .int .i64 y.2] 37)
  clear m3 q3 f3 s3 hb4 fx3
  have hxx : (x.1 == x.1 && x.2 == x.2) = true := by simp
  have hyy : (y.1 == y.1 && y.2 == y.2) = true := by simp
  have hnn : (n != n) = false := by simp
  obtain ⟨l0, l1, x0, x1, y0, y1⟩ := id fx4
  obtain ⟨l0', l1', u0, u1, v0, v1⟩ := id fu4
  rcases Hc.out with ⟨rfl, hw1, hw2⟩ | ⟨hn, rfl, rfl⟩
  · have Hw1 : Hid _ := hw1
    have Hw2 : Hid _ := hw2
    clear hw1 hw2
    obtain ⟨j0, j1, e0, e1, e2, e3, k0, k1, k2, k3⟩ := id m4
    have z1 : w2.heap.size < w4.heap.size + 1 := by omega
    have z2 : w2.heap.size < w4.heap.size + 1 + 1 := by omega
    have z3 : w2.heap.size < w4.heap.size + 1 + 1 + 1 := by omega
    have z4 : w2.heap.size + 1 < w4.heap.size + 1 := by omega
    have z5 : w2.heap.size + 1 < w4.heap.size + 1 + 1 := by omega
    have z6 : w2.heap.size + 1 < w4.heap.size + 1 + 1 + 1 := by omega
    go_wp2_with fail
    refine (where_any [[(a1, a2), (b1, b2), (a1, a2)]] _ x y _ (by exact rings1 (p := w4.heap.size + 1 + 1) (by simp [go_sem]) (by simp [go_sem]) (by simp [go_sem]) (by simp [go_sem]) (by simp [go_sem]) (by simp [go_sem]) (by simp [go_sem])) (by unfold maxLen; simp) (by unfold maxLen; simp)).mono ?_
    rintro e w5 ⟨rfl, hb5⟩
    rw [Hw1.out]
    have t5 := below_call hb5 (below_call (below2 _ _ _) s4)
    have m5 := m4.later t5
    have fx5 := fx4.later t5
    have q5 := below_call t5 q4
    clear z1 z2 z3 z4 z5 z6 l0 l1 x0 x1 y0 y1 j0 j1 e0 e1 e2 e3 k0 k1 k2 k3
    obtain ⟨l0, l1, x0, x1, y0, y1⟩ := id fx5
    obtain ⟨j0, j1, e0, e1, e2, e3, k0, k1, k2, k3⟩ := id m5
    have z1 : w2.heap.size < w5.heap.size + 1 := by omega
    have z4 : w2.heap.size + 1 < w5.heap.size + 1 := by omega
    go_wp2_with fail
    refine (where_any [[(c1, c2), (d1, d2), (c1, c2)]] _ x y _ (by exact rings1 (p := w5.heap.size) (by simp [go_sem]) (by simp [go_sem]) (by simp [go_sem]) (by simp [go_sem]) (by simp [go_sem]) (by simp [go_sem]) (by simp [go_sem])) (by unfold maxLen; simp) (by unfold maxLen; simp)).mono ?_
    rintro e w6 ⟨rfl, hb6⟩
    rw [Hw2.out]
    go_wp2_with (go_at_call 11; refine (num_any _ _).mono ?_; rintro e w' ⟨rfl, rfl⟩)
    go_ret
    exact ⟨rfl, below_call hb6 (below_call (below2 _ _ _) q5)⟩
  · rcases hn with rfl | rfl
    · go_wp2
      go_ret
      exact ⟨rfl, below_call s4 q4⟩
    · go_wp2
      go_ret
      exact ⟨rfl, below_call s4 q4⟩

end Go.Proofs.Ytkjlkbgdkdcboaa
