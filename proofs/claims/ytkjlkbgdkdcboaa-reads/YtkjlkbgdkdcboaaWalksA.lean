import Derived.Test.YtkjlkbgdkdcboaaRows
import Derived.Test.YtkjlkbgdkdcboaaPlane
import Derived.WalkKit
import Derived.WalkSpells
import Derived.WalkLawsBesides
import Derived.Deep.QuietTactic
import Derived.BigQuiet
import Derived.Deep.RegionHeld3
import Derived.Deep.DrawnRows
namespace Go.Proofs.Ytkjlkbgdkdcboaa
open Go.RowKit
attribute [local go_sem ↓] Go.wp_at_zero Go.wp_at_succ

theorem ret_int {k : IntKind} {a b : Int} (h : a = b) : Ending.returned (.int k a) = .returned (.int k b) := by rw [h]
theorem ret_bool {a b : Bool} (h : a = b) : Ending.returned (.bool a) = .returned (.bool b) := by rw [h]

set_option maxHeartbeats 400000 in
theorem sign_any (n : Int) (w : World) :
    Calls Try.prog 72 #[.int .i64 n] w fun e w' => e = .returned (.int .i64 (Acre.sgn n)) ∧ w' = w := by
  by_cases h1 : n < 0
  · go_enter Try.func72, Try.ntmps72
    go_wp2
    go_ret
    exact ⟨ret_int (Acre.sgn_neg h1).symm, rfl⟩
  · by_cases h2 : 0 < n
    · go_enter Try.func72, Try.ntmps72
      go_wp2
      go_ret
      exact ⟨ret_int (Acre.sgn_pos h2).symm, rfl⟩
    · go_enter Try.func72, Try.ntmps72
      go_wp2
      go_ret
      exact ⟨ret_int (Acre.sgn_zero (by omega) (by omega)).symm, rfl⟩

set_option maxHeartbeats 400000 in
theorem rsign_any (n : Int) (w : World) :
    Calls Try.prog 75 #[.int .i64 n] w fun e w' => e = .returned (.int .i64 (Acre.sgn n)) ∧ w' = w := by
  by_cases h1 : n < 0
  · go_enter Try.func75, Try.ntmps75
    go_wp2
    go_ret
    exact ⟨ret_int (Acre.sgn_neg h1).symm, rfl⟩
  · by_cases h2 : 0 < n
    · go_enter Try.func75, Try.ntmps75
      go_wp2
      go_ret
      exact ⟨ret_int (Acre.sgn_pos h2).symm, rfl⟩
    · go_enter Try.func75, Try.ntmps75
      go_wp2
      go_ret
      exact ⟨ret_int (Acre.sgn_zero (by omega) (by omega)).symm, rfl⟩

set_option maxHeartbeats 400000 in
theorem compare_any (N D n : Int) (w : World) (h1 : -1000000000 ≤ N ∧ N ≤ 1000000000) (h2 : -1000000000 ≤ n * D ∧ n * D ≤ 1000000000) :
    Calls Try.prog 56 #[.agg #[.int .i64 N, .int .i64 D], .int .i64 n] w fun e w' => e = .returned (.int .i64 (Acre.sgn (N - n * D))) ∧ Below w.heap.size w w' := by
  go_enter Try.func56, Try.ntmps56
  go_wp2_with (go_at_call 72; refine (sign_any _ _).mono ?_; rintro e w' ⟨rfl, rfl⟩)
  go_ret
  exact ⟨rfl, (Below.refl _ _).alloc (Nat.le_refl _) _⟩

set_option maxHeartbeats 400000 in
theorem keepsSide_any (n : Int) (w : World) :
    Calls Try.prog 60 #[.int .i64 n] w fun e w' => e = .returned (.bool (decide (-12 ≤ n ∧ n ≤ 12))) ∧ w' = w := by
  by_cases h1 : -12 ≤ n
  · by_cases h2 : n ≤ 12
    · go_enter Try.func60, Try.ntmps60
      go_wp2
      go_ret
      exact ⟨ret_bool (by simp; omega), rfl⟩
    · go_enter Try.func60, Try.ntmps60
      go_wp2
      go_ret
      exact ⟨ret_bool (by simp; omega), rfl⟩
  · go_enter Try.func60, Try.ntmps60
    go_wp2
    go_ret
    exact ⟨ret_bool (by simp; omega), rfl⟩

theorem wrap_in (n : Int) (h : -9223372036854775808 ≤ n ∧ n ≤ 9223372036854775807) : IntKind.i64.wrap n = n := by
  rw [IntKind.wrap_i64]; omega

theorem bcell {W w1 : World} (hb : Below W.heap.size W w1) : (∀ b o, b < W.heap.size → w1.cell? ⟨b, o, none⟩ = W.cell? ⟨b, o, none⟩) ∧ (∀ b o, b < W.heap.size → w1.frozen? ⟨b, o, none⟩ = W.frozen? ⟨b, o, none⟩) :=
  ⟨fun b o h => hb.cell (p := ⟨b, o, none⟩) h, fun b o h => hb.frozen (p := ⟨b, o, none⟩) h⟩

theorem below_call {W w1 w2 : World} (hb : Below w1.heap.size w1 w2) (h : Below W.heap.size W w1) : Below W.heap.size W w2 := h.trans (hb.mono h.size)

/-- the numbers of a fraction as they come up -/
abbrev Fr (N D : Int) : Prop := (-60000 ≤ N ∧ N ≤ 60000) ∧ (-2000 ≤ D ∧ D ≤ 2000)
abbrev Sm (x : Int) : Prop := -13 ≤ x ∧ x ≤ 13

set_option maxHeartbeats 400000 in
theorem side_any (x0 y0 x1 y1 xN xD yN yD : Int) (w : World) (hx0 : Sm x0) (hy0 : Sm y0) (hx1 : Sm x1) (hy1 : Sm y1) (hx : Fr xN xD) (hy : Fr yN yD) :
    Calls Try.prog 54 #[.agg #[.int .i64 x0, .int .i64 y0, .int .i64 x1, .int .i64 y1], .agg #[.int .i64 xN, .int .i64 xD], .agg #[.int .i64 yN, .int .i64 yD]] w fun e w' => e = .returned (.int .i64 (Acre.sd x0 y0 x1 y1 xN xD yN yD)) ∧ Below w.heap.size w w' := by
  obtain ⟨hx1', hx2⟩ := hx
  obtain ⟨hy1', hy2⟩ := hy
  have b1 := Acre.mul_bd x0 xD 13 2000 hx0 hx2
  have b2 := Acre.mul_bd y0 yD 13 2000 hy0 hy2
  have b3 := Acre.mul_bd (xN - x0 * xD) yD 100000 2000 (by omega) hy2
  have b4 := Acre.mul_bd (yN - y0 * yD) xD 100000 2000 (by omega) hx2
  have b5 := Acre.mul_bd (x1 - x0) ((yN - y0 * yD) * xD) 26 200000000 (by omega) (by omega)
  have b6 := Acre.mul_bd (y1 - y0) ((xN - x0 * xD) * yD) 26 200000000 (by omega) (by omega)
  go_enter Try.func54, Try.ntmps54
  go_wp2_with fail
  go_quiet (fail)
  go_wp2_with (go_at_call 72; refine (sign_any _ _).mono ?_; rintro e w' ⟨rfl, rfl⟩)
  go_ret
  exact ⟨rfl, below_drewN ((((Below.refl _ _).alloc (Nat.le_refl _) _).alloc (by simp) _).alloc (by simp; omega) _) _⟩

set_option maxHeartbeats 400000 in
theorem between_any (N D a b : Int) (w : World) (h1 : -1000000000 ≤ N ∧ N ≤ 1000000000) (h2 : -1000000000 ≤ a * D ∧ a * D ≤ 1000000000) (h3 : -1000000000 ≤ b * D ∧ b * D ≤ 1000000000) :
    Calls Try.prog 73 #[.agg #[.int .i64 N, .int .i64 D], .int .i64 a, .int .i64 b] w fun e w' => e = .returned (.bool (Acre.btw N D a b)) ∧ Below w.heap.size w w' := by
  have s1 := Acre.sgn_bd (N - a * D)
  have s2 := Acre.sgn_bd (N - b * D)
  have s3 := Acre.mul_bd _ _ 1 1 s1 s2
  go_enter Try.func73, Try.ntmps73
  go_wp2_with fail
  have hB : Below w.heap.size w (w.alloc (.cells #[.int .i64 N, .int .i64 D] 37)) := (Below.refl _ _).alloc (Nat.le_refl _) _
  have c0 : (w.alloc (.cells #[.int .i64 N, .int .i64 D] 37)).cell? ⟨w.heap.size, 0, none⟩ = some (.int .i64 N) := by simp [go_sem]
  have c1 : (w.alloc (.cells #[.int .i64 N, .int .i64 D] 37)).cell? ⟨w.heap.size, 1, none⟩ = some (.int .i64 D) := by simp [go_sem]
  generalize w.alloc (.cells #[.int .i64 N, .int .i64 D] 37) = W at *
  go_region_held3 (fun w' => w'.cell? ⟨w.heap.size, 0, none⟩ = some (.int .i64 N) ∧ w'.cell? ⟨w.heap.size, 1, none⟩ = some (.int .i64 D) ∧ Below W.heap.size W w')
    ((go_split_ands; refine ⟨?_, ?_, ?_⟩ <;> first | assumption | exact Below.drew (Below.refl _ _) | exact cell_later (by assumption) (by assumption) | exact below_call (by assumption) (by assumption)))
    (first | (go_at_call 56; refine (compare_any _ _ _ _ ?_ ?_).mono ?_; assumption; assumption; rintro e w' ⟨rfl, hb⟩))
  go_wp2
  go_ret
  go_split_ands
  exact ⟨ret_bool (by rw [wrap_in _ (by omega)]; exact Acre.btw_prog N D a b), below_call (by assumption) hB⟩

theorem mulOk (a D : Int) (ha : Sm a) (hD : -2000 ≤ D ∧ D ≤ 2000) : -1000000000 ≤ a * D ∧ a * D ≤ 1000000000 := by
  have := Acre.mul_bd a D 13 2000 ha hD; omega

set_option maxHeartbeats 400000 in
theorem isInBox_any (x0 y0 x1 y1 xN xD yN yD : Int) (w : World) (hx0 : Sm x0) (hy0 : Sm y0) (hx1 : Sm x1) (hy1 : Sm y1) (hx : Fr xN xD) (hy : Fr yN yD) :
    Calls Try.prog 55 #[.agg #[.int .i64 x0, .int .i64 y0, .int .i64 x1, .int .i64 y1], .agg #[.int .i64 xN, .int .i64 xD], .agg #[.int .i64 yN, .int .i64 yD]] w fun e w' => e = .returned (.bool (Acre.btw xN xD x0 x1 && Acre.btw yN yD y0 y1)) ∧ Below w.heap.size w w' := by
  obtain ⟨hxN, hxD⟩ := hx
  obtain ⟨hyN, hyD⟩ := hy
  cases hb : Acre.btw xN xD x0 x1
  · go_enter Try.func55, Try.ntmps55
    go_wp2_with (first | (go_at_call 73; refine (between_any _ _ _ _ _ (by omega) (mulOk _ _ (by assumption) (by assumption)) (mulOk _ _ (by assumption) (by assumption))).mono ?_; rintro e w' ⟨rfl, hb1⟩))
    go_ret
    exact ⟨rfl, below_call hb1 ((((Below.refl _ _).alloc (Nat.le_refl _) _).alloc (by simp) _).alloc (by simp; omega) _)⟩
  · go_enter Try.func55, Try.ntmps55
    go_wp2_with fail
    refine (between_any _ _ _ _ _ (by omega) (mulOk _ _ (by assumption) (by assumption)) (mulOk _ _ (by assumption) (by assumption))).mono ?_
    rintro e w1 ⟨rfl, hb1⟩
    obtain ⟨hc, hf⟩ := bcell hb1
    have hz := hb1.size
    go_wp2_with fail
    refine (between_any _ _ _ _ _ (by omega) (mulOk _ _ (by assumption) (by assumption)) (mulOk _ _ (by assumption) (by assumption))).mono ?_
    rintro e w2 ⟨rfl, hb2⟩
    go_wp2
    go_ret
    exact ⟨by simp, below_call hb2 (below_call hb1 ((((Below.refl _ _).alloc (Nat.le_refl _) _).alloc (by simp) _).alloc (by simp; omega) _))⟩

end Go.Proofs.Ytkjlkbgdkdcboaa
