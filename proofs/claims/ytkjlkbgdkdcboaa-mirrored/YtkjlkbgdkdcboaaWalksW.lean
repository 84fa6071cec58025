import Derived.Test.YtkjlkbgdkdcboaaWalksB
import Derived.Test.YtkjlkbgdkdcboaaPlane4
namespace Go.Proofs.Ytkjlkbgdkdcboaa
open Go.RowKit
attribute [local go_sem ↓] Go.wp_at_zero Go.wp_at_succ

theorem frOk {N D : Int} (h : Fr N D) : -1000000000 ≤ N ∧ N ≤ 1000000000 := by obtain ⟨h1, _⟩ := h; omega

set_option maxHeartbeats 400000 in
theorem isRightOf_any (x0 y0 x1 y1 : Int) (x y : Int × Int) (w : World) (hx0 : Sm x0) (hy0 : Sm y0) (hx1 : Sm x1) (hy1 : Sm y1) (hx : Fr x.1 x.2) (hy : Fr y.1 y.2) :
    Calls Try.prog 28 #[.agg #[.int .i64 x0, .int .i64 y0, .int .i64 x1, .int .i64 y1], .agg #[.int .i64 x.1, .int .i64 x.2], .agg #[.int .i64 y.1, .int .i64 y.2]] w fun e w' => e = .returned (.bool (Acre.isR ((x0, y0), (x1, y1)) x y)) ∧ Below w.heap.size w w' := by
  unfold Acre.isR
  dsimp only
  cases h1 : decide (0 ≤ Acre.sgn (y.1 - y0 * y.2))
  · go_enter Try.func28, Try.ntmps28
    go_wp2_with fail
    refine (compare_any _ _ _ _ (frOk hy) (mulOk _ _ hy0 hy.2)).mono ?_
    rintro e w1 ⟨rfl, hb1⟩
    go_wp2
    go_ret
    exact ⟨rfl, below_call hb1 (below3 _ _ _ _)⟩
  · cases h2 : decide (Acre.sgn (y.1 - y1 * y.2) < 0)
    · go_enter Try.func28, Try.ntmps28
      go_wp2_with fail
      refine (compare_any _ _ _ _ (frOk hy) (mulOk _ _ hy0 hy.2)).mono ?_
      rintro e w1 ⟨rfl, hb1⟩
      obtain ⟨hc, hf⟩ := bcell hb1
      have hz := hb1.size
      go_wp2_with fail
      refine (compare_any _ _ _ _ (frOk hy) (mulOk _ _ hy1 hy.2)).mono ?_
      rintro e w2 ⟨rfl, hb2⟩
      go_wp2
      go_ret
      exact ⟨rfl, below_call hb2 (below_call hb1 (below3 _ _ _ _))⟩
    · go_enter Try.func28, Try.ntmps28
      go_wp2_with fail
      refine (compare_any _ _ _ _ (frOk hy) (mulOk _ _ hy0 hy.2)).mono ?_
      rintro e w1 ⟨rfl, hb1⟩
      obtain ⟨hc, hf⟩ := bcell hb1
      have hz := hb1.size
      go_wp2_with fail
      refine (compare_any _ _ _ _ (frOk hy) (mulOk _ _ hy1 hy.2)).mono ?_
      rintro e w2 ⟨rfl, hb2⟩
      have hb2' := below_call hb2 hb1
      obtain ⟨hc2, hf2⟩ := bcell hb2'
      have hz2 := hb2'.size
      go_wp2_with fail
      refine (side_any _ _ _ _ _ _ _ _ _ hx0 hy0 hx1 hy1 hx hy).mono ?_
      rintro e w3 ⟨rfl, hb3⟩
      go_wp2
      go_ret
      exact ⟨by simp, below_call hb3 (below_call hb2' (below3 _ _ _ _))⟩

abbrev edV4 (e : Acre.Ed) : Value := .agg #[.int .i64 e.1.1, .int .i64 e.1.2, .int .i64 e.2.1, .int .i64 e.2.2]

set_option maxHeartbeats 400000 in
theorem upward_any (x0 y0 x1 y1 : Int) (w : World) :
    Calls Try.prog 53 #[.agg #[.int .i64 x0, .int .i64 y0, .int .i64 x1, .int .i64 y1]] w fun e w' => e = .returned (edV4 (Acre.up ((x0, y0), (x1, y1)))) ∧ Below w.heap.size w w' := by
  by_cases h1 : y1 < y0
  · have hu : Hid (Acre.up ((x0, y0), (x1, y1)) = ((x1, y1), (x0, y0))) := by show _ = _; simp [Acre.up, h1]
    go_enter Try.func53, Try.ntmps53
    go_wp2
    exact bodyPost_ret (v := .agg #[.int .i64 x1, .int .i64 y1, .int .i64 x0, .int .i64 y0]) (by simp [results, Try.results53, go_sem]) rfl ⟨by rw [hu.out], below2 _ _ _⟩
  · by_cases h2 : y0 = y1
    · by_cases h3 : x1 < x0
      · have hu : Hid (Acre.up ((x0, y0), (x1, y1)) = ((x1, y1), (x0, y0))) := by show _ = _; simp [Acre.up, h2, h3]
        subst h2
        go_enter Try.func53, Try.ntmps53
        go_wp2
        exact bodyPost_ret (v := .agg #[.int .i64 x1, .int .i64 y0, .int .i64 x0, .int .i64 y0]) (by simp [results, Try.results53, go_sem]) rfl ⟨by rw [hu.out], below2 _ _ _⟩
      · have hu : Hid (Acre.up ((x0, y0), (x1, y1)) = ((x0, y0), (x1, y1))) := by show _ = _; simp [Acre.up, h2, h3]
        subst h2
        go_enter Try.func53, Try.ntmps53
        go_wp2
        exact bodyPost_ret (v := .agg #[.int .i64 x0, .int .i64 y0, .int .i64 x1, .int .i64 y0]) (by simp [results, Try.results53, go_sem]) rfl ⟨by rw [hu.out], below2 _ _ _⟩
    · have hu : Hid (Acre.up ((x0, y0), (x1, y1)) = ((x0, y0), (x1, y1))) := by show _ = _; simp [Acre.up, h1, h2]
      have h2b : (y0 == y1) = false := by simpa using h2
      clear h2
      go_enter Try.func53, Try.ntmps53
      go_wp2
      exact bodyPost_ret (v := .agg #[.int .i64 x0, .int .i64 y0, .int .i64 x1, .int .i64 y1]) (by simp [results, Try.results53, go_sem]) rfl ⟨by rw [hu.out], below2 _ _ _⟩

set_option maxHeartbeats 400000 in
theorem isNear_any (N D : Int) (w : World) :
    Calls Try.prog 24 #[.agg #[.int .i64 N, .int .i64 D], .int .i64 13] w fun e w' => e = .returned (.bool (Acre.near (N, D))) ∧ Below w.heap.size w w' := by
  unfold Acre.near
  dsimp only
  by_cases h1 : D < 1
  · go_enter Try.func24, Try.ntmps24
    go_wp2
    go_ret
    exact ⟨ret_bool (by rw [decide_eq_false (show ¬ 1 ≤ D by omega)]; rfl), below1 _ _⟩
  · by_cases h2 : 1152 < D
    · go_enter Try.func24, Try.ntmps24
      go_wp2
      go_ret
      exact ⟨ret_bool (by rw [decide_eq_false (show ¬ D ≤ 1152 by omega)]; simp), below1 _ _⟩
    · have e1 : decide (1 ≤ D) = true := by simp; omega
      have e2 : decide (D ≤ 1152) = true := by simp; omega
      rw [e1, e2]
      by_cases h3 : -(13 * D) ≤ N
      · by_cases h4 : N ≤ 13 * D
        · go_enter Try.func24, Try.ntmps24
          go_wp2_with fail
          refine (gcd_any _ _ _ (by omega) (by omega)).mono ?_
          rintro e w1 ⟨rfl, hb1⟩
          go_wp2
          go_ret
          exact ⟨ret_bool (by simp; omega), below_call hb1 (below1 _ _)⟩
        · go_enter Try.func24, Try.ntmps24
          go_wp2
          go_ret
          exact ⟨ret_bool (by simp; omega), below1 _ _⟩
      · go_enter Try.func24, Try.ntmps24
        go_wp2
        go_ret
        exact ⟨ret_bool (by simp; omega), below1 _ _⟩

end Go.Proofs.Ytkjlkbgdkdcboaa
