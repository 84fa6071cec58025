import Derived.Test.YtkjlkbgdkdcboaaLawM
import Derived.Test.YtkjlkbgdkdcboaaFrameM
namespace Go.Proofs.Ytkjlkbgdkdcboaa

/-- Meets: for any two edges. -/
theorem meets_holds : Rows.MeetsSaid := meets.proved_of meets_walk
#print axioms meets_holds

end Go.Proofs.Ytkjlkbgdkdcboaa
