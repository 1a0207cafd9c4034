/-
  The tree, plain: places, what is above them, beside them, where two meet; keys that are ok, who is in, what covers, what is cleared and set. No Go function in it.
-/
import Derived.Test.YtkcopldlobomhaaMade2
import Derived.Test.YtkcopldlobomhaaTreC
namespace Go.Proofs.Ytkcopldlobomhaa

/-- A key that is ok: none, or one. -/
def keyOk (x : ByteArray) : Bool := decide (x = ByteArray.empty) || (Kw.ok x && decide (mOp x = 3))
def treOk (xs : List ByteArray) : Bool := decide (xs.length = 15) && xs.all keyOk
/-- A tree with keys of some places, each made from the next secret. -/
def fill : List ByteArray → ByteArray → List Nat → List ByteArray
  | xs, _, [] => xs
  | xs, s, p :: ps => fill (xs.set p (mkKey s)) (mkNext s) ps
def setKeys (xs : List ByteArray) (who : Nat) (s : ByteArray) : List ByteArray := fill xs s ((7 + who) :: ups (7 + who))
end Go.Proofs.Ytkcopldlobomhaa
