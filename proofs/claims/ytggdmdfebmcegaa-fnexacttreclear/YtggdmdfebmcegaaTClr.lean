/-
  TreClear of both sides.
-/
import Derived.Test.YtggdmdfebmcegaaTClrI
import Derived.Test.YtggdmdfebmcegaaTClrS
