/-
  The specification's TreClear.
-/
import Derived.Test.YtkcopldlobomhaaTClr0
import Derived.Test.YtkcopldlobomhaaTreS
import Derived.Test.YtkcopldlobomhaaAppR
import Derived.Test.YtkcopldlobomhaaOrdR
import Derived.Test.YtkcopldlobomhaaRowInI
namespace Go.Proofs.Ytkcopldlobomhaa
open Go.RowKit

end Go.Proofs.Ytkcopldlobomhaa
