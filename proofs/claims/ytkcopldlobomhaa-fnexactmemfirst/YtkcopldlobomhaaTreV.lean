/-
  The spec's covers: l3Cover.
-/
import Derived.Test.YtkcopldlobomhaaTreD
import Derived.Test.YtkcopldlobomhaaIntR
import Derived.Deep.RegionHeld3
namespace Go.Proofs.Ytkcopldlobomhaa
open Go.RowKit

def ints (ps : List Nat) : List Int := ps.map fun (k : Nat) => (k : Int)
/-- What l3Cover leaves. -/
def Covers (xs : List ByteArray) (n : Nat) (w : World) (e : Ending) (w' : World) : Prop := ∃ u, e = .returned u ∧ OwnI w.heap.size w' u (ints (cover xs n)) ∧ Below w.heap.size w w'

theorem nil_text : (ByteArray.empty).toList = [] := by decide +kernel
theorem no_text {x : ByteArray} (h : ¬ x = ByteArray.empty) : ¬ x.toList = [] := by
  intro e
  exact h ((toList_eq (x := x) (y := ByteArray.empty)).1 (by rw [e, nil_text]; rfl))

end Go.Proofs.Ytkcopldlobomhaa
