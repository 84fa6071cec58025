import Derived.Test.YtkjlkbgdkdcboaaWalksB
namespace Go.Proofs.Ytkjlkbgdkdcboaa
open Go.RowKit
attribute [local go_sem ↓] Go.wp_at_zero Go.wp_at_succ

set_option maxHeartbeats 400000 in
theorem rside_any (x0 y0 x1 y1 xN xD yN yD : Int) (w : World) (hx0 : Sm x0) (hy0 : Sm y0) (hx1 : Sm x1) (hy1 : Sm y1) (hx : Fr xN xD) (hy : Fr yN yD) :
    Calls Try.prog 63 #[.agg #[.int .i64 x0, .int .i64 y0, .int .i64 x1, .int .i64 y1], .agg #[.int .i64 xN, .int .i64 xD], .agg #[.int .i64 yN, .int .i64 yD]] w fun e w' => e = .returned (.int .i64 (Acre.sd x0 y0 x1 y1 xN xD yN yD)) ∧ Below w.heap.size w w' := by
  rw [← Acre.sd_ref]
  obtain ⟨hx1', hx2⟩ := hx
  obtain ⟨hy1', hy2⟩ := hy
  have b1 := Acre.mul_bd x0 xD 13 2000 hx0 hx2
  have b2 := Acre.mul_bd y0 yD 13 2000 hy0 hy2
  have b3 := Acre.mul_bd (xN - x0 * xD) (y1 - y0) 100000 26 (by omega) (by omega)
  have b4 := Acre.mul_bd (yN - y0 * yD) (x1 - x0) 100000 26 (by omega) (by omega)
  have b5 := Acre.mul_bd ((yN - y0 * yD) * (x1 - x0)) xD 2600000 2000 (by omega) (by omega)
  have b6 := Acre.mul_bd ((xN - x0 * xD) * (y1 - y0)) yD 2600000 2000 (by omega) (by omega)
  go_enter Try.func63, Try.ntmps63
  go_wp2_with (go_at_call 75; refine (rsign_any _ _).mono ?_; rintro e w' ⟨rfl, rfl⟩)
  go_ret
  exact ⟨rfl, below3 _ _ _ _⟩

set_option maxHeartbeats 400000 in
theorem rbetween_any (N D a b : Int) (w : World) (hD : 0 ≤ D) (h2 : -1000000000 ≤ a * D ∧ a * D ≤ 1000000000) (h3 : -1000000000 ≤ b * D ∧ b * D ≤ 1000000000) :
    Calls Try.prog 64 #[.agg #[.int .i64 N, .int .i64 D], .int .i64 a, .int .i64 b] w fun e w' => e = .returned (.bool (Acre.btw N D a b)) ∧ Below w.heap.size w w' := by
  by_cases h : b < a
  · have hr : Hid _ := (Acre.btw_swap N D a b).trans (Acre.btw_ref N D b a hD (by omega))
    by_cases k1 : b * D ≤ N
    · by_cases k2 : N ≤ a * D
      · go_enter Try.func64, Try.ntmps64
        go_wp2
        go_ret
        exact ⟨ret_bool (by rw [hr.out]; simp; omega), below1 _ _⟩
      · go_enter Try.func64, Try.ntmps64
        go_wp2
        go_ret
        exact ⟨ret_bool (by rw [hr.out]; simp; omega), below1 _ _⟩
    · go_enter Try.func64, Try.ntmps64
      go_wp2
      go_ret
      exact ⟨ret_bool (by rw [hr.out]; simp; omega), below1 _ _⟩
  · have hr : Hid _ := Acre.btw_ref N D a b hD (by omega)
    by_cases k1 : a * D ≤ N
    · by_cases k2 : N ≤ b * D
      · go_enter Try.func64, Try.ntmps64
        go_wp2
        go_ret
        exact ⟨ret_bool (by rw [hr.out]; simp; omega), below1 _ _⟩
      · go_enter Try.func64, Try.ntmps64
        go_wp2
        go_ret
        exact ⟨ret_bool (by rw [hr.out]; simp; omega), below1 _ _⟩
    · go_enter Try.func64, Try.ntmps64
      go_wp2
      go_ret
      exact ⟨ret_bool (by rw [hr.out]; simp; omega), below1 _ _⟩

set_option maxHeartbeats 400000 in
theorem ron_any (x0 y0 x1 y1 xN xD yN yD : Int) (w : World) (hx0 : Sm x0) (hy0 : Sm y0) (hx1 : Sm x1) (hy1 : Sm y1) (hx : Fr xN xD) (hy : Fr yN yD) (hxD : 0 ≤ xD) (hyD : 0 ≤ yD) :
    Calls Try.prog 40 #[.agg #[.int .i64 x0, .int .i64 y0, .int .i64 x1, .int .i64 y1], .agg #[.int .i64 xN, .int .i64 xD], .agg #[.int .i64 yN, .int .i64 yD]] w fun e w' => e = .returned (.bool (Acre.onE x0 y0 x1 y1 xN xD yN yD)) ∧ Below w.heap.size w w' := by
  unfold Acre.onE
  obtain ⟨_, hx2⟩ := id hx
  obtain ⟨_, hy2⟩ := id hy
  cases hb : Acre.sd x0 y0 x1 y1 xN xD yN yD == 0
  · go_enter Try.func40, Try.ntmps40
    go_wp2_with fail
    refine (rside_any _ _ _ _ _ _ _ _ _ hx0 hy0 hx1 hy1 hx hy).mono ?_
    rintro e w1 ⟨rfl, hb1⟩
    go_wp2
    go_ret
    exact ⟨rfl, below_call hb1 (below3 _ _ _ _)⟩
  · cases hb' : Acre.btw xN xD x0 x1
    · go_enter Try.func40, Try.ntmps40
      go_wp2_with fail
      refine (rside_any _ _ _ _ _ _ _ _ _ hx0 hy0 hx1 hy1 hx hy).mono ?_
      rintro e w1 ⟨rfl, hb1⟩
      obtain ⟨hc, hf⟩ := bcell hb1
      have hz := hb1.size
      go_wp2_with fail
      refine (rbetween_any _ _ _ _ _ hxD (mulOk _ _ hx0 hx2) (mulOk _ _ hx1 hx2)).mono ?_
      rintro e w2 ⟨rfl, hb2⟩
      go_wp2
      go_ret
      exact ⟨by simp, below_call hb2 (below_call hb1 (below3 _ _ _ _))⟩
    · go_enter Try.func40, Try.ntmps40
      go_wp2_with fail
      refine (rside_any _ _ _ _ _ _ _ _ _ hx0 hy0 hx1 hy1 hx hy).mono ?_
      rintro e w1 ⟨rfl, hb1⟩
      obtain ⟨hc, hf⟩ := bcell hb1
      have hz := hb1.size
      go_wp2_with fail
      refine (rbetween_any _ _ _ _ _ hxD (mulOk _ _ hx0 hx2) (mulOk _ _ hx1 hx2)).mono ?_
      rintro e w2 ⟨rfl, hb2⟩
      have hb2' := below_call hb2 hb1
      obtain ⟨hc2, hf2⟩ := bcell hb2'
      have hz2 := hb2'.size
      go_wp2_with fail
      refine (rbetween_any _ _ _ _ _ hyD (mulOk _ _ hy0 hy2) (mulOk _ _ hy1 hy2)).mono ?_
      rintro e w3 ⟨rfl, hb3⟩
      go_wp2
      go_ret
      exact ⟨by simp, below_call hb3 (below_call hb2' (below3 _ _ _ _))⟩

set_option maxHeartbeats 400000 in
theorem grid_any (x y : Int) (w : World) :
    Calls Try.prog 38 #[.agg #[.int .i64 x, .int .i64 y]] w fun e w' => e = .returned (.bool (Acre.onGrid (x, y))) ∧ Below w.heap.size w w' := by
  unfold Acre.onGrid
  by_cases h1 : -12 ≤ x
  · by_cases h2 : x ≤ 12
    · by_cases h3 : -12 ≤ y
      · by_cases h4 : y ≤ 12
        all_goals
          go_enter Try.func38, Try.ntmps38
          go_wp2
          go_ret
          exact ⟨ret_bool (by simp; omega), below1 _ _⟩
      · go_enter Try.func38, Try.ntmps38
        go_wp2
        go_ret
        exact ⟨ret_bool (by simp; omega), below1 _ _⟩
    · go_enter Try.func38, Try.ntmps38
      go_wp2
      go_ret
      exact ⟨ret_bool (by simp; omega), below1 _ _⟩
  · go_enter Try.func38, Try.ntmps38
    go_wp2
    go_ret
    exact ⟨ret_bool (by simp; omega), below1 _ _⟩

set_option maxHeartbeats 400000 in
theorem edge_any (x0 y0 x1 y1 : Int) (w : World) :
    Calls Try.prog 17 #[.agg #[.int .i64 x0, .int .i64 y0, .int .i64 x1, .int .i64 y1]] w fun e w' => e = .returned (.agg #[.int .i64 x0, .int .i64 y0, .int .i64 x1, .int .i64 y1]) ∧ Below w.heap.size w w' := by
  go_enter Try.func17, Try.ntmps17
  go_wp2
  exact bodyPost_ret (v := .agg #[.int .i64 x0, .int .i64 y0, .int .i64 x1, .int .i64 y1]) (by simp [results, Try.results17, go_sem]) rfl ⟨rfl, below2 _ _ _⟩

set_option maxHeartbeats 400000 in
theorem frac_any (N D : Int) (w : World) :
    Calls Try.prog 14 #[.agg #[.int .i64 N, .int .i64 D]] w fun e w' => e = .returned (.agg #[.int .i64 N, .int .i64 D]) ∧ Below w.heap.size w w' := by
  go_enter Try.func14, Try.ntmps14
  go_wp2
  exact bodyPost_ret (v := .agg #[.int .i64 N, .int .i64 D]) (by simp [results, Try.results14, go_sem]) rfl ⟨rfl, below2 _ _ _⟩

end Go.Proofs.Ytkjlkbgdkdcboaa
