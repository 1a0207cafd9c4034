/-
  The program's TreClear.
-/
import Derived.Test.YtkcopldlobomhaaTClr0
import Derived.Test.YtkcopldlobomhaaCloneN
import Derived.Test.YtkcopldlobomhaaPlcF
namespace Go.Proofs.Ytkcopldlobomhaa
open Go.RowKit Go.Shelf
attribute [local go_sem] Oper.semAt_some

def vals (ps : List (Fin 15)) : List Nat := ps.map (·.val)
theorem vals_snoc (ps : List (Fin 15)) (x : Fin 15) : vals (ps ++ [x]) = vals ps ++ [x.val] := by simp [vals]
theorem vals_chain (k : Nat) (h : k < 8) : vals (chainF ((7 + k : Nat) : Int)) = (7 + k) :: ups (7 + k) := by
  rw [chainF_nat (7 + k) (by omega)]
  exact chainT_val _

end Go.Proofs.Ytkcopldlobomhaa
