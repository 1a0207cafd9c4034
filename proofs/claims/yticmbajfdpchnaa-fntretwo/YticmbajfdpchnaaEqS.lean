/-
  The laws' own look whether two rows of texts are the same.
-/
import Derived.Test.YticmbajfdpchnaaStr0
namespace Go.Proofs.Yticmbajfdpchnaa
open Go.RowKit

end Go.Proofs.Yticmbajfdpchnaa
