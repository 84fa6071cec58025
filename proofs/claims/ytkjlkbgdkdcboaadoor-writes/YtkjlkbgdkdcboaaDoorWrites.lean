import Derived.Test.YtkjlkbgdkdcboaaDoorFrame
namespace Go.Proofs.YtkjlkbgdkdcboaaDoor
open Go

/-- Writes: for any list of rings; the library's tables tied to the program's text. -/
theorem writes_holds : Rows.WritesCardSaid :=
  Claim7.holds_tied_plain_at .later [] [.data, .data, .data] true (true, "8ec928bb8ef1c24a6cd5c56b7bd4ce8afaccb3ed0c1ba8b398166afb541bd357") false
    writes.row_holds (fun _ h => by cases h) (by kernel_rfl) (fun _ h => by cases h) writes_row_tie rfl ⟨rfl, rfl⟩ (by kernel_rfl) rfl
    (fun f fn hf hfn => by
      obtain rfl : f = 3 := Option.some.inj ((show Tryd.prog.funcNamed Rows.writesRow.func = some 3 by kernel_rfl).symm.trans hf) |>.symm
      obtain rfl : fn = Tryd.f3 := (Option.some.inj (Tryd.func3.symm.trans hfn)).symm
      exact ⟨by kernel_rfl, fun j t ht => by
        rw [Tryd.params3] at ht
        have hm : t ∈ [22] := by simpa using Array.mem_of_getElem? ht
        have hall : ([22].all fun u => !Tryd.prog.wantsStandIn u) = true := by kernel_rfl
        exact (show Tryd.prog.wantsStandIn t = false by simpa using List.all_eq_true.1 hall t hm)⟩)
    (by kernel_rfl)
#print axioms writes_holds

end Go.Proofs.YtkjlkbgdkdcboaaDoor
