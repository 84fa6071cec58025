import Derived.Test.YtmhcjgpnhdpjjaaLawR
import Derived.Test.YtmhcjgpnhdpjjaaFrameR
namespace Go.Proofs.Ytmhcjgpnhdpjjaa

/-- Mirrored: for any two edges. -/
theorem mirrored_holds : Rows.MirroredSaid := mirrored.proved_of mirrored_walk
#print axioms mirrored_holds

end Go.Proofs.Ytmhcjgpnhdpjjaa
