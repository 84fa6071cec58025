import Derived.Test.YtkjlkbgdkdcboaaLawT
import Derived.Test.YtkjlkbgdkdcboaaFrameT
namespace Go.Proofs.Ytkjlkbgdkdcboaa

/-- Reads: for any text. -/
theorem reads_holds : Rows.ReadsSaid := reads.proved_of reads_walk
#print axioms reads_holds

end Go.Proofs.Ytkjlkbgdkdcboaa
