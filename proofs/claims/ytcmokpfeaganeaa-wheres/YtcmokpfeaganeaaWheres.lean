import Derived.Test.YtcmokpfeaganeaaLawW
import Derived.Test.YtcmokpfeaganeaaFrameW
namespace Go.Proofs.Ytcmokpfeaganeaa

/-- Wheres: for any list of rings and any place. -/
theorem wheres_holds : Rows.WheresSaid := wheres.proved_of wheres_walk
#print axioms wheres_holds

end Go.Proofs.Ytcmokpfeaganeaa
