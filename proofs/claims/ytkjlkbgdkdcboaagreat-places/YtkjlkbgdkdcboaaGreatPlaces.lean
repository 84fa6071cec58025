import Derived.Test.YtkjlkbgdkdcboaaGreatLawP
import Derived.Test.YtkjlkbgdkdcboaaGreatFrameP

set_option linter.unusedSimpArgs false
set_option linter.unusedVariables false

namespace Go.Proofs.YtkjlkbgdkdcboaaGreat

/-- Places: for any two texts, any op, any offer, any place. -/
theorem places_holds : Rows.PlacesSaid := places.proved_of (fun a b op offer x y w => places_any a b op offer x y w)
#print axioms places_holds

end Go.Proofs.YtkjlkbgdkdcboaaGreat
