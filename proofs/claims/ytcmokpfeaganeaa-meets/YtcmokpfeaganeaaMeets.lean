import Derived.Test.YtcmokpfeaganeaaLawM
import Derived.Test.YtcmokpfeaganeaaFrameM
namespace Go.Proofs.Ytcmokpfeaganeaa

/-- Meets: for any two edges. -/
theorem meets_holds : Rows.MeetsSaid := meets.proved_of meets_walk
#print axioms meets_holds

end Go.Proofs.Ytcmokpfeaganeaa
