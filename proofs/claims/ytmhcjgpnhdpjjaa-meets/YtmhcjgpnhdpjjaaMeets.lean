import Derived.Test.YtmhcjgpnhdpjjaaLawM
import Derived.Test.YtmhcjgpnhdpjjaaFrameM
namespace Go.Proofs.Ytmhcjgpnhdpjjaa

/-- Meets: for any two edges. -/
theorem meets_holds : Rows.MeetsSaid := meets.proved_of meets_walk
#print axioms meets_holds

end Go.Proofs.Ytmhcjgpnhdpjjaa
