import Derived.Test.YtkjlkbgdkdcboaaFrame
namespace Go.Proofs.Ytkjlkbgdkdcboaa.mirrored
open Go.ChangeShapes Go.WideShapes Go.ChangeAt Go.RowKit Go.Joins

set_option maxRecDepth 100000 in
theorem lifted (walk : ∀ (a1 a2 b1 b2 c1 c2 d1 d2 : Int) (w : World), Calls Try.prog 6 #[edV a1 a2 b1 b2, edV c1 c2 d1 d2] w fun e w' => e = .returned (.bool true) ∧ Below w.heap.size w w')
    (os : Os) (started : os.Started) (H : Type) (enc : TypeId × Value → H) :
    ReturnsInHanded {} Try.checked os 6 .any (Rows.mirroredSpec.pre6 enc Try.prog Try.f6 Rows.mirroredRow.domain false) (Rows.mirroredSpec.post enc Try.prog Try.f6 false true false false) := by
  refine returnsInHanded_of_change (C := Try.checked) own started (by kernel_rfl) Try.func6
    (ChangeSpec.witness6 (enc := enc) (C := Try.checked) false ⟨#[], #[edV 0 0 0 0, edV 0 0 0 0], []⟩ 8 (by kernel_rfl) (by kernel_rfl) (by kernel_rfl) (by kernel_rfl)) ?_
  intro W base args ds gs before hval0 hW hcnd _
  have hval : ∀ (j : Nat) t v, Try.f6.params[j]? = some t → args[j]? = some v → Value.okWide Try.prog W .any base t v := hval0
  have hW' := hW
  obtain ⟨p, q, hA0, hV, rfl, hfz, hnd⟩ := hW
  have hA : DataW.TrodAll enc Try.prog W 0 (fun _ => true) true Try.f6.params.toList args.toList ds p := hA0
  rw [Try.params6] at hA hval
  obtain ⟨v0, v1, d0, d1, p0, p1, hargs, rfl, rfl, h0, h1⟩ := trodAll_two hA
  obtain rfl : args = #[v0, v1] := by cases args; simp_all
  obtain ⟨rfl, rfl⟩ := trodVars_none hV
  obtain ⟨a1, a2, b1, b2, rfl, rfl, rfl, w1, w2, w3, w4⟩ := open_ed (hval 0 46 v0 rfl rfl) h0
  obtain ⟨c1, c2, d1, d2, rfl, rfl, rfl, w5, w6, w7, w8⟩ := open_ed (hval 1 46 v1 rfl rfl) h1
  clear hA0 hval0
  simp only [List.append_nil] at hW'
  refine (walk a1 a2 b1 b2 c1 c2 d1 d2 W).mono fun e W' ⟨he, hg⟩ => ?_
  subst he
  exact ⟨_, rfl, _, _, _, [], [], [], hW', trodAll_mk1 (shut_bool Try.underlying4 _), trodAll_mk2 (shut_ed w1 w2 w3 w4) (shut_ed w5 w6 w7 w8), rfl, hg.frame _, fun h => by cases h⟩

theorem proved_of (walk : ∀ (a1 a2 b1 b2 c1 c2 d1 d2 : Int) (w : World), Calls Try.prog 6 #[edV a1 a2 b1 b2, edV c1 c2 d1 d2] w fun e w' => e = .returned (.bool true) ∧ Below w.heap.size w w') : Rows.MirroredSaid :=
  OpenClaim.holds_of_wide 6 Try.f6 rfl rfl rfl rfl rfl rfl rfl ⟨rfl, rfl, rfl, rfl, rfl⟩ rfl rfl rfl rfl rfl (by kernel_rfl) Try.func6 (by kernel_rfl)
    (of_decide_eq_true (by kernel_rfl)) (by unfold Func.isWrapper; first | (rw [if_pos (by decide +kernel)]; kernel_rfl) | (rw [if_neg (by decide +kernel)]; exact ⟨rfl, rfl⟩))
    (fun os started H enc _ => lifted walk os started H enc)

end Go.Proofs.Ytkjlkbgdkdcboaa.mirrored
