/-
  TreSet of both sides.
-/
import Derived.Test.YtggdmdfebmcegaaTSetI
import Derived.Test.YtggdmdfebmcegaaTSetS
