import Derived.Test.YtkjlkbgdkdcboaaWalksZ
import Derived.Test.YtkjlkbgdkdcboaaMir
namespace Go.Proofs.Ytkjlkbgdkdcboaa
open Go.RowKit
attribute [local go_sem ↓] Go.wp_at_zero Go.wp_at_succ

theorem near_pos {f : Int × Int} (h : Acre.near f = true) : 0 < f.2 := by
  unfold Acre.near at h
  simp only [Bool.and_eq_true, decide_eq_true_eq] at h
  omega

/-- both ways answer alike -/
theorem where_same {R : List (List Acre.Pt)} {x y : Int × Int} (hF : Acre.fieldOk R = true) (hX : Acre.near x = true) (hY : Acre.near y = true) : whereP R x y = (atS (Acre.edgesOf R) x y, 0) := by
  have hall : (Acre.fieldOk R && (Acre.near x && Acre.near y)) = true := by rw [hF, hX, hY]; rfl
  unfold atS
  by_cases ho : (Acre.edgesOf R).any (fun e => Acre.isOnE e x y) = true
  · rw [if_pos ho]
    obtain ⟨e, he, h⟩ := List.any_eq_true.1 ho
    exact whereP_on hall (List.mem_map.2 ⟨e, he, rfl⟩) (by rw [isOnE_up]; exact h)
  · rw [if_neg ho]
    have ho' : ∀ e ∈ Acre.edgesOf R, Acre.isOnE e x y = false := fun e he => by
      cases h : Acre.isOnE e x y with
      | false => rfl
      | true => exact absurd (List.any_eq_true.2 ⟨e, he, h⟩) ho
    rw [whereP_par hall (fun e he => by
      obtain ⟨f, hf, rfl⟩ := List.mem_map.1 he
      rw [isOnE_up]; exact ho' f hf)]
    have hr := Acre.rays R x y hF (near_pos hX) (near_pos hY) ho'
    by_cases h1 : ((Acre.edgesOf R).map Acre.up).countP (fun e => Acre.isR e x y) % 2 = 1
    · rw [if_pos h1, hr.1 h1]; rfl
    · have h2 : (Acre.edgesOf R).countP (fun e => Acre.abv e x y) % 2 = 0 := by
        have : ¬ (Acre.edgesOf R).countP (fun e => Acre.abv e x y) % 2 = 1 := fun h => h1 (hr.2 h)
        omega
      rw [if_neg h1, h2]; rfl

set_option maxRecDepth 100000 in
set_option maxHeartbeats 4000000 in
theorem rwhere_any (R : List (List Acre.Pt)) (v : Value) (x y : Int × Int) (w : World) (hR : Rings w v R) (hn : R.length ≤ maxLen) (hm : ∀ r ∈ R, r.length ≤ maxLen) :
    Calls Try.prog 13 #[v, .agg #[.int .i64 x.1, .int .i64 x.2], .agg #[.int .i64 y.1, .int .i64 y.2]] w fun e w' => e = .returned (.tuple #[.int .i64 (whereP R x y).1, .int .i64 (whereP R x y).2]) ∧ Below w.heap.size w w' := by
  have m0 := FB.start w x y 42 42
  have q0 := below2 w (.cells #[.int .i64 x.1, .int .i64 x.2] 42) (.cells #[.int .i64 y.1, .int .i64 y.2] 42)
  have k30x : ∀ V : World, Calls Try.prog 30 #[.agg #[.int .i64 x.1, .int .i64 x.2], .int .i64 13] V fun e w' => e = .returned (.bool (Acre.near x)) ∧ Below V.heap.size V w' := fun V => fair_any x.1 x.2 V
  have k30y : ∀ V : World, Calls Try.prog 30 #[.agg #[.int .i64 y.1, .int .i64 y.2], .int .i64 13] V fun e w' => e = .returned (.bool (Acre.near y)) ∧ Below V.heap.size V w' := fun V => fair_any y.1 y.2 V
  have Hx : Hid _ := k30x
  have Hy : Hid _ := k30y
  clear k30x k30y
  cases hF : Acre.fieldOk R
  · have HW : Hid _ := whereP_no (x := x) (y := y) (by rw [hF]; rfl)
    go_enter Try.func13, Try.ntmps13
    go_wp2_with fail
    refine (rField_any R v _ (hR.later q0) hn hm).mono ?_
    rintro e w1 ⟨rfl, hb1⟩
    rw [hF]
    go_wp2
    go_ret2
    exact ⟨by rw [HW.out]; rfl, below_call hb1 q0⟩
  · go_enter Try.func13, Try.ntmps13
    go_wp2_with fail
    refine (rField_any R v _ (hR.later q0) hn hm).mono ?_
    rintro e w1 ⟨rfl, hb1⟩
    rw [hF]
    have m1 := m0.later hb1
    have q1 := below_call hb1 q0
    obtain ⟨l0, l1, x0, x1, y0, y1⟩ := id m1
    go_wp2_with fail
    refine (Hx.out _).mono ?_
    rintro e w2 ⟨rfl, hb2⟩
    have m2 := m1.later hb2
    have q2 := below_call hb2 q1
    clear l0 l1 x0 x1 y0 y1 m0 q0 m1 q1 hb1 hb2
    cases hX : Acre.near x
    · have HW : Hid _ := whereP_no (R := R) (y := y) (by rw [hX]; simp)
      go_wp2
      go_ret2
      exact ⟨by rw [HW.out]; rfl, q2⟩
    · obtain ⟨l0, l1, x0, x1, y0, y1⟩ := id m2
      go_wp2_with fail
      refine (Hy.out _).mono ?_
      rintro e w3 ⟨rfl, hb3⟩
      have m3 := m2.later hb3
      have q3 := below_call hb3 q2
      clear l0 l1 x0 x1 y0 y1 m2 q2 hb3
      cases hY : Acre.near y
      · have HW : Hid _ := whereP_no (R := R) (x := x) (by rw [hY]; simp)
        go_wp2
        go_ret2
        exact ⟨by rw [HW.out]; rfl, q3⟩
      · have HS : Hid _ := where_same hF hX hY
        go_wp2_with fail
        refine (rEdges_any R v _ (hR.later q3) hF).mono ?_
        rintro e w4 ⟨u, rfl, hown4, hb4⟩
        have m4 := m3.later hb4
        have q4 := below_call hb4 q3
        obtain ⟨l0, l1, x0, x1, y0, y1⟩ := id m4
        have px := near_pos hX
        have py := near_pos hY
        go_wp2_with fail
        refine (at_any (Acre.edgesOf R) u _ x y _ hown4 (edges_sm hF) (edges_len hF) (near_fr hX) (near_fr hY) (by omega) (by omega)).mono ?_
        rintro e w5 ⟨rfl, hb5⟩
        go_wp2
        go_ret2
        exact ⟨by rw [HS.out]; rfl, below_call hb5 q4⟩

end Go.Proofs.Ytkjlkbgdkdcboaa
