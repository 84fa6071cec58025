import Derived.Test.YtmhcjgpnhdpjjaaLawW
import Derived.Test.YtmhcjgpnhdpjjaaFrameW
namespace Go.Proofs.Ytmhcjgpnhdpjjaa

/-- Wheres: for any list of rings and any place. -/
theorem wheres_holds : Rows.WheresSaid := wheres.proved_of wheres_walk
#print axioms wheres_holds

end Go.Proofs.Ytmhcjgpnhdpjjaa
