import Derived.Test.YtkjlkbgdkdcboaaLawR
import Derived.Test.YtkjlkbgdkdcboaaFrameR
namespace Go.Proofs.Ytkjlkbgdkdcboaa

/-- Mirrored: for any two edges. -/
theorem mirrored_holds : Rows.MirroredSaid := mirrored.proved_of mirrored_walk
#print axioms mirrored_holds

end Go.Proofs.Ytkjlkbgdkdcboaa
