import Derived.Test.YtcmokpfeaganeaaLawT
import Derived.Test.YtcmokpfeaganeaaFrameT
namespace Go.Proofs.Ytcmokpfeaganeaa

/-- Reads: for any text. -/
theorem reads_holds : Rows.ReadsSaid := reads.proved_of reads_walk
#print axioms reads_holds

end Go.Proofs.Ytcmokpfeaganeaa
