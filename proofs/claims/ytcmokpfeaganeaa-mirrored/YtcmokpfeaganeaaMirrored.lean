import Derived.Test.YtcmokpfeaganeaaLawR
import Derived.Test.YtcmokpfeaganeaaFrameR
namespace Go.Proofs.Ytcmokpfeaganeaa

/-- Mirrored: for any two edges. -/
theorem mirrored_holds : Rows.MirroredSaid := mirrored.proved_of mirrored_walk
#print axioms mirrored_holds

end Go.Proofs.Ytcmokpfeaganeaa
