import Derived.Test.YtkjlkbgdkdcboaaWalksC
import Derived.Test.YtkjlkbgdkdcboaaPlane6
namespace Go.Proofs.Ytkjlkbgdkdcboaa
open Go.RowKit
attribute [local go_sem ↓] Go.wp_at_zero Go.wp_at_succ

theorem below5' (w : World) (a b c d e : Obj) : Below w.heap.size w (((((w.alloc a).alloc b).alloc c).alloc d).alloc e) :=
  below_call (below2 _ _ _) (below3 w a b c)

set_option maxHeartbeats 1000000 in
theorem above_any (x0 y0 x1 y1 : Int) (x y : Int × Int) (w : World) (hx0 : Sm x0) (hy0 : Sm y0) (hx1 : Sm x1) (hy1 : Sm y1) (hx : Fr x.1 x.2) (hy : Fr y.1 y.2) :
    Calls Try.prog 59 #[.agg #[.int .i64 x0, .int .i64 y0, .int .i64 x1, .int .i64 y1], .agg #[.int .i64 x.1, .int .i64 x.2], .agg #[.int .i64 y.1, .int .i64 y.2]] w fun e w' => e = .returned (.bool (Acre.abv ((x0, y0), (x1, y1)) x y)) ∧ Below w.heap.size w w' := by
  have b0 := Acre.mul_bd x0 x.2 13 2000 hx0 hx.2
  have b1 := Acre.mul_bd x1 x.2 13 2000 hx1 hx.2
  by_cases hs : x1 < x0
  · by_cases h1 : x.1 < x1 * x.2
    · have hv : Hid (Acre.abv ((x0, y0), (x1, y1)) x y = false) := by show _ = _; simp [Acre.abv, hs]; intro h; omega
      go_enter Try.func59, Try.ntmps59
      go_wp2
      go_ret
      exact ⟨ret_bool hv.out.symm, below5' _ _ _ _ _ _⟩
    · by_cases h2 : x0 * x.2 ≤ x.1
      · have hv : Hid (Acre.abv ((x0, y0), (x1, y1)) x y = false) := by show _ = _; simp [Acre.abv, hs]; intro _ h; omega
        go_enter Try.func59, Try.ntmps59
        go_wp2
        go_ret
        exact ⟨ret_bool hv.out.symm, below5' _ _ _ _ _ _⟩
      · have hv : Hid (Acre.abv ((x0, y0), (x1, y1)) x y = decide (Acre.sd x1 y1 x0 y0 x.1 x.2 y.1 y.2 < 0)) := by
          show _ = _; simp only [Acre.abv, hs, if_true]; rw [decide_eq_true (show x1 * x.2 ≤ x.1 by omega), decide_eq_true (show x.1 < x0 * x.2 by omega)]; rfl
        go_enter Try.func59, Try.ntmps59
        go_wp2_with (go_at_call 63; refine (rside_any _ _ _ _ _ _ _ _ _ hx1 hy1 hx0 hy0 hx hy).mono ?_; rintro e w1 ⟨rfl, hb1⟩)
        go_ret
        exact ⟨ret_bool hv.out.symm, below_call hb1 (below5' _ _ _ _ _ _)⟩
  · by_cases h1 : x.1 < x0 * x.2
    · have hv : Hid (Acre.abv ((x0, y0), (x1, y1)) x y = false) := by show _ = _; simp [Acre.abv, hs]; intro h; omega
      go_enter Try.func59, Try.ntmps59
      go_wp2
      go_ret
      exact ⟨ret_bool hv.out.symm, below5' _ _ _ _ _ _⟩
    · by_cases h2 : x1 * x.2 ≤ x.1
      · have hv : Hid (Acre.abv ((x0, y0), (x1, y1)) x y = false) := by show _ = _; simp [Acre.abv, hs]; intro _ h; omega
        go_enter Try.func59, Try.ntmps59
        go_wp2
        go_ret
        exact ⟨ret_bool hv.out.symm, below5' _ _ _ _ _ _⟩
      · have hv : Hid (Acre.abv ((x0, y0), (x1, y1)) x y = decide (Acre.sd x0 y0 x1 y1 x.1 x.2 y.1 y.2 < 0)) := by
          show _ = _; simp only [Acre.abv, hs, if_false]; rw [decide_eq_true (show x0 * x.2 ≤ x.1 by omega), decide_eq_true (show x.1 < x1 * x.2 by omega)]; rfl
        go_enter Try.func59, Try.ntmps59
        go_wp2_with (go_at_call 63; refine (rside_any _ _ _ _ _ _ _ _ _ hx0 hy0 hx1 hy1 hx hy).mono ?_; rintro e w1 ⟨rfl, hb1⟩)
        go_ret
        exact ⟨ret_bool hv.out.symm, below_call hb1 (below5' _ _ _ _ _ _)⟩

set_option maxHeartbeats 2000000 in
theorem fair_any (N D : Int) (w : World) :
    Calls Try.prog 30 #[.agg #[.int .i64 N, .int .i64 D], .int .i64 13] w fun e w' => e = .returned (.bool (Acre.near (N, D))) ∧ Below w.heap.size w w' := by
  unfold Acre.near
  dsimp only
  have c0 : (w.alloc (.cells #[.int .i64 N, .int .i64 D] 42)).cell? ⟨w.heap.size, 0, none⟩ = some (.int .i64 N) := by simp [go_sem]
  have c1 : (w.alloc (.cells #[.int .i64 N, .int .i64 D] 42)).cell? ⟨w.heap.size, 1, none⟩ = some (.int .i64 D) := by simp [go_sem]
  have q := below1 w (.cells #[.int .i64 N, .int .i64 D] 42)
  have s0 : IntKind.i64.wrap (-13) = -13 := wrap_in _ (by omega)
  by_cases h1 : 1 ≤ D
  · have d1 : decide (1 ≤ D) = true := by simp; omega
    by_cases h2 : D ≤ 1152
    · have d2 : decide (D ≤ 1152) = true := by simp; omega
      have s1 : IntKind.i64.wrap (-13 * D) = -13 * D := wrap_in _ (by omega)
      have s2 : IntKind.i64.wrap (13 * D) = 13 * D := wrap_in _ (by omega)
      by_cases h3 : -(13 * D) ≤ N
      · have d3 : decide (-13 * D ≤ N) = true := by simp; omega
        by_cases h4 : N ≤ 13 * D
        · have d4 : decide (N ≤ 13 * D) = true := by simp; omega
          have hv : Hid ((decide (1 ≤ D) && decide (D ≤ 1152) && (decide (-(13 * D) ≤ N) && decide (N ≤ 13 * D) && Acre.g N D == 1)) = (Acre.g N D == 1)) := by
            show _ = _; rw [d1, d2, d4, decide_eq_true h3]; simp
          go_enter Try.func30, Try.ntmps30
          go_wp2_with fail
          generalize w.alloc (.cells #[.int .i64 N, .int .i64 D] 42) = W at *
          go_region_held3 (fun w' => w'.cell? ⟨w.heap.size, 0, none⟩ = some (.int .i64 N) ∧ w'.cell? ⟨w.heap.size, 1, none⟩ = some (.int .i64 D) ∧ Below W.heap.size W w')
            ((go_split_ands; refine ⟨?_, ?_, ?_⟩ <;> first | assumption | exact Below.drew (Below.refl _ _) | exact cell_later (by assumption) (by assumption) | exact below_call (by assumption) (by assumption)))
            (first | (go_at_call 58; refine (abs_any _ _ ?_).mono ?_; omega; rintro e w' ⟨rfl, rfl⟩) | (go_at_call 57; refine (rgcd_any _ _ _ ?_ ?_).mono ?_; omega; omega; rintro e w' ⟨rfl, hb⟩))
          go_split_ands
          go_wp2
          go_ret
          exact ⟨ret_bool (by rw [hv.out, Acre.g_abs]), below_call (by assumption) q⟩
        · have d4 : decide (N ≤ 13 * D) = false := by simp; omega
          have hv : Hid ((decide (1 ≤ D) && decide (D ≤ 1152) && (decide (-(13 * D) ≤ N) && decide (N ≤ 13 * D) && Acre.g N D == 1)) = false) := by
            show _ = _; rw [d1, d2, d4]; simp
          go_enter Try.func30, Try.ntmps30
          go_wp2_with fail
          go_quiet (fail)
          go_wp2
          go_ret
          exact ⟨ret_bool hv.out.symm, below_drewN q _⟩
      · have d3 : decide (-13 * D ≤ N) = false := by simp; omega
        have hv : Hid ((decide (1 ≤ D) && decide (D ≤ 1152) && (decide (-(13 * D) ≤ N) && decide (N ≤ 13 * D) && Acre.g N D == 1)) = false) := by
          show _ = _; rw [d1, d2, decide_eq_false h3]; simp
        go_enter Try.func30, Try.ntmps30
        go_wp2_with fail
        go_quiet (fail)
        go_wp2
        go_ret
        exact ⟨ret_bool hv.out.symm, below_drewN q _⟩
    · have d2 : decide (D ≤ 1152) = false := by simp; omega
      have hv : Hid ((decide (1 ≤ D) && decide (D ≤ 1152) && (decide (-(13 * D) ≤ N) && decide (N ≤ 13 * D) && Acre.g N D == 1)) = false) := by
        show _ = _; rw [d2]; simp
      go_enter Try.func30, Try.ntmps30
      go_wp2_with fail
      go_quiet (fail)
      go_wp2
      go_ret
      exact ⟨ret_bool hv.out.symm, below_drewN q _⟩
  · have d1 : decide (1 ≤ D) = false := by simp; omega
    have hv : Hid ((decide (1 ≤ D) && decide (D ≤ 1152) && (decide (-(13 * D) ≤ N) && decide (N ≤ 13 * D) && Acre.g N D == 1)) = false) := by
      show _ = _; rw [d1]; simp
    go_enter Try.func30, Try.ntmps30
    go_wp2_with fail
    go_quiet (fail)
    go_wp2
    go_ret
    exact ⟨ret_bool hv.out.symm, below_drewN q _⟩

end Go.Proofs.Ytkjlkbgdkdcboaa
