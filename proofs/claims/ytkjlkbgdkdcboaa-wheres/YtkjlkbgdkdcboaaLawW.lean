import Derived.Test.YtkjlkbgdkdcboaaLawR
import Derived.Test.YtkjlkbgdkdcboaaRWhere
import Derived.Test.YtkjlkbgdkdcboaaCopy
import Derived.Deep.Light
namespace Go.Proofs.Ytkjlkbgdkdcboaa
open Go.RowKit Go.Maps
attribute [local go_sem ↓] Go.wp_at_zero Go.wp_at_succ

theorem unturned {W w1 : World} (hb : Below W.drew.heap.size W.drew w1) : Below W.heap.size W w1 := ⟨hb.os, hb.tape, hb.output, hb.size, hb.block⟩

set_option maxRecDepth 100000 in
set_option maxHeartbeats 20000000 in
theorem wheres_walk (R : List (List Acre.Pt)) (v : Value) (x y : Int × Int) (w : World) (hR : Rings w v R) (hn : R.length * 24 ≤ 140737488351232) (hm : ∀ r ∈ R, r.length * 16 ≤ 140737488351232) :
    Calls Try.prog 4 #[v, .agg #[.int .i64 x.1, .int .i64 x.2], .agg #[.int .i64 y.1, .int .i64 y.2]] w fun e w' => e = .returned (.bool true) ∧ Below w.heap.size w w' := by
  have hn' : R.length ≤ maxLen := by unfold maxLen; omega
  have hm' : ∀ r ∈ R, r.length ≤ maxLen := fun r h => by have := hm r h; unfold maxLen; omega
  have m0 := FB.start w x y 37 37
  have q0 := below2 w (.cells #[.int .i64 x.1, .int .i64 x.2] 37) (.cells #[.int .i64 y.1, .int .i64 y.2] 37)
  have Hn : Hid _ := hn
  have Hm : Hid _ := hm
  have Hn' : Hid _ := hn'
  have Hm' : Hid _ := hm'
  have HR : Hid (Rings w v R) := hR
  obtain ⟨P, hP⟩ : ∃ P, whereP R x y = P := ⟨_, rfl⟩
  have HP : Hid _ := hP
  clear hn hm hn' hm' hR hP
  go_enter Try.func4, Try.ntmps4
  go_wp2_with fail
  refine (where_any R v x y _ (HR.out.later q0) Hn'.out Hm'.out).mono ?_
  rintro e w1 ⟨rfl, hb1⟩
  rw [HP.out]
  have m1 := m0.later hb1
  have q1 := below_call hb1 q0
  clear m0 q0 hb1
  obtain ⟨l0, l1, x0, x1, y0, y1⟩ := id m1
  go_wp2_with fail
  have Q1 : Hid (Below w.heap.size w w1) := q1
  clear m1 q1
  go_region_held3 (fun w' => w'.cell? ⟨w.heap.size, 0, none⟩ = some (.int .i64 x.1) ∧ w'.cell? ⟨w.heap.size, 1, none⟩ = some (.int .i64 x.2) ∧ w'.cell? ⟨w.heap.size + 1, 0, none⟩ = some (.int .i64 y.1) ∧ w'.cell? ⟨w.heap.size + 1, 1, none⟩ = some (.int .i64 y.2) ∧ Below w1.heap.size w1 w')
    ((go_split_ands; refine ⟨?_, ?_, ?_, ?_, ?_⟩ <;> first | assumption | exact Below.refl _ _ | exact Below.drew (Below.refl _ _) | exact cell_later (by assumption) (by assumption) | exact below_call (by assumption) (by assumption)))
    (first
      | (go_at_call 10; refine (field_any R v _ (HR.out.later (below_call (by first | assumption | exact Below.refl _ _ | exact Below.drew (Below.refl _ _) | (go_split_ands; assumption)) Q1.out)) Hn.out Hm.out).mono ?_; rintro e w' ⟨u, rfl, hg, hb⟩)
      | (go_at_call 14; refine (frac_any _ _ _).mono ?_; rintro e w' ⟨rfl, hb⟩; have hg2 := Rings.later hg hb; clear hg; have hg := hg2; clear hg2)
      | (go_at_call 13; refine (rwhere_any R _ x y _ hg Hn'.out Hm'.out).mono ?_; rintro e w' ⟨rfl, hb⟩; rw [HP.out]))
  go_split_ands
  have q2 : Below w.heap.size w w' := below_call (by assumption) Q1.out
  have hp1 : (P.1 == P.1) = true := by simp
  have hp2 : (P.2 == P.2) = true := by simp
  go_wp2_with (go_at_call 11; refine (num_any _ _).mono ?_; rintro e w' ⟨rfl, rfl⟩)
  go_ret
  exact ⟨rfl, q2⟩

end Go.Proofs.Ytkjlkbgdkdcboaa
