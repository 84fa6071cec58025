import Derived.Test.YtkjlkbgdkdcboaaLawW
import Derived.Test.YtkjlkbgdkdcboaaFrameW
namespace Go.Proofs.Ytkjlkbgdkdcboaa

/-- Wheres: for any list of rings and any place. -/
theorem wheres_holds : Rows.WheresSaid := wheres.proved_of wheres_walk
#print axioms wheres_holds

end Go.Proofs.Ytkjlkbgdkdcboaa
