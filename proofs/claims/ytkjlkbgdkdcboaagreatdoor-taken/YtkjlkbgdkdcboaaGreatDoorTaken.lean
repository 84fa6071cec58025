import Derived.Test.YtkjlkbgdkdcboaaGreatDoorFrT
import Derived.Test.YtkjlkbgdkdcboaaGreatDoorWcA
set_option linter.unusedSimpArgs false
set_option linter.unusedVariables false
namespace Go.Proofs.YtkjlkbgdkdcboaaGreatDoor
open Go

/-- Taken: for any two texts, any op, any two offers; the library's tables tied to the program's text. -/
theorem taken_holds : Rows.TakenCardSaid :=
  Claim7.holds_tied_plain_at .later [] [.data, .data, .data] true (true, "ff5cf445d977e750261657546a0d6e2ff27bb6a273a55404d84d08ea2023b138") true
    (taken.row_holds (fun a b op o1 o2 w ht => taken_any (fun E ps u v b1 b2 w hP hE hsm hEl hpl hpe hpc ht => writeCert_any E ps u v b1 b2 w hP hE hsm hEl hpl hpe hpc ht) a b op o1 o2 w ht)) (fun _ h => by cases h) (by kernel_rfl) (fun _ h => by cases h) taken_row_tie rfl ⟨rfl, rfl⟩ (by kernel_rfl) rfl
    (fun f fn hf hfn => by
      obtain rfl : f = 5 := Option.some.inj ((show Tryz.prog.funcNamed Rows.takenRow.func = some 5 by kernel_rfl).symm.trans hf) |>.symm
      obtain rfl : fn = Tryz.f5 := (Option.some.inj (Tryz.func5.symm.trans hfn)).symm
      exact ⟨by kernel_rfl, fun j t ht => by
        rw [Tryz.params5] at ht
        have hm : t ∈ [9, 9, 3, 9, 9] := by simpa using Array.mem_of_getElem? ht
        have hall : ([9, 9, 3, 9, 9].all fun u => !Tryz.prog.wantsStandIn u) = true := by kernel_rfl
        exact (show Tryz.prog.wantsStandIn t = false by simpa using List.all_eq_true.1 hall t hm)⟩)
    (by kernel_rfl)
#print axioms taken_holds

end Go.Proofs.YtkjlkbgdkdcboaaGreatDoor
