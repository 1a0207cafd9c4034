/-
  No cell of these rows narrows 'for every input' (looked for: loops, veiled, ifaces, maps, wideKeys, modest, calm, conditions, laid).
  DERIVED. THE GIVEN ROWS OF THIS SEAT. 5 by the template 'for every input the law returns true; each argument reads behind the call as it read before'; 0 by the template 'total and deterministic' (their statements: YtkhjolfofcnhiaqTotals.lean).
  GIVEN WITH THE SEED: the statements are not yours to turn. If you find one false, say at which input.
  Laid BY PROGRAM, IN A SANDBOX (cutbox-rows.mjs): the forced cells as the released guide's own fill.sh prints them over the translation 938f7fbfb6fe79ab… (all of the seat's roots in one cut). By AI agents, Wed Nov 11 2026. No macro, syntax, notation, axiom, sorry.
-/
import Derived.Test.YtkhjolfofcnhiaqChecked
import GoSem.Claim
import GoSem.ClaimJoined
import GoSem.ClaimMapViews
import Derived.JoinedTies
import Derived.KernelRfl
namespace Go.Proofs.Ytkhjolfofcnhiaq
/- THE CELL 'sum', in the pinned program and in every row, IS THE sha256 OF THE DUMP (.gsa) THAT YtkhjolfofcnhiaqProg.lean LOADS. Nothing in Lean hashes anything: it is a label: what it is worth is what the hold of that sum in a sandbox is worth. -/
noncomputable def Try.pinned : Pinned := { name := "ytkhjolfofcnhiaq", sum := "938f7fbfb6fe79abd8891bc7b53f68f998d41abbd6f9c4d9fe6490fc5b210cbf", checked := Try.checked }
namespace Rows
def none {H : Type} : Left H := { results := [], args := [] }

/-- 'laws.FnExactMakNew': WHATEVER THE INPUT: true; the input reads as it did. -/
def fnExactMakNewSpec : ChangeSpec := { name := "fnExactMakNew", fn := fun _ => fun
  | [d1, d2] => { results := [.lit (.bool true)], args := [d1, d2] }
  | _ => none }
def fnExactMakNewRow : OpenClaim := { program := "ytkhjolfofcnhiaq", sum := "938f7fbfb6fe79abd8891bc7b53f68f998d41abbd6f9c4d9fe6490fc5b210cbf", func := "loop.example/keyward/laws.FnExactMakNew", spec := "fnExactMakNew", unfollowed := true, recurses := true, apart := false }
def FnExactMakNewSaid : Prop := fnExactMakNewRow.holds Try.pinned (OpenSpec.ofChange fnExactMakNewSpec)

/-- ITS FALSE NEIGHBOUR: 'it returns false'. Refute it at one input. -/
def fnExactMakNewWrong : ChangeSpec := { name := "fnExactMakNew", fn := fun _ => fun
  | [d1, d2] => { results := [.lit (.bool false)], args := [d1, d2] }
  | _ => none }
def FnExactMakNewWrongFalsely : Prop := fnExactMakNewRow.holds Try.pinned (OpenSpec.ofChange fnExactMakNewWrong)

/-- 'laws.FnExactSecOk': WHATEVER THE INPUT: true; the input reads as it did. -/
def fnExactSecOkSpec : ChangeSpec := { name := "fnExactSecOk", fn := fun _ => fun
  | [d] => { results := [.lit (.bool true)], args := [d] }
  | _ => none }
def fnExactSecOkRow : OpenClaim := { program := "ytkhjolfofcnhiaq", sum := "938f7fbfb6fe79abd8891bc7b53f68f998d41abbd6f9c4d9fe6490fc5b210cbf", func := "loop.example/keyward/laws.FnExactSecOk", spec := "fnExactSecOk", recurses := true, apart := false }
def FnExactSecOkSaid : Prop := fnExactSecOkRow.holds Try.pinned (OpenSpec.ofChange fnExactSecOkSpec)

/-- ITS FALSE NEIGHBOUR: 'it returns false'. Refute it at one input. -/
def fnExactSecOkWrong : ChangeSpec := { name := "fnExactSecOk", fn := fun _ => fun
  | [d] => { results := [.lit (.bool false)], args := [d] }
  | _ => none }
def FnExactSecOkWrongFalsely : Prop := fnExactSecOkRow.holds Try.pinned (OpenSpec.ofChange fnExactSecOkWrong)

/-- 'laws.FnExactMakNext': WHATEVER THE INPUT: true; the input reads as it did. -/
def fnExactMakNextSpec : ChangeSpec := { name := "fnExactMakNext", fn := fun _ => fun
  | [d] => { results := [.lit (.bool true)], args := [d] }
  | _ => none }
def fnExactMakNextRow : OpenClaim := { program := "ytkhjolfofcnhiaq", sum := "938f7fbfb6fe79abd8891bc7b53f68f998d41abbd6f9c4d9fe6490fc5b210cbf", func := "loop.example/keyward/laws.FnExactMakNext", spec := "fnExactMakNext", unfollowed := true, recurses := true, apart := false }
def FnExactMakNextSaid : Prop := fnExactMakNextRow.holds Try.pinned (OpenSpec.ofChange fnExactMakNextSpec)

/-- ITS FALSE NEIGHBOUR: 'it returns false'. Refute it at one input. -/
def fnExactMakNextWrong : ChangeSpec := { name := "fnExactMakNext", fn := fun _ => fun
  | [d] => { results := [.lit (.bool false)], args := [d] }
  | _ => none }
def FnExactMakNextWrongFalsely : Prop := fnExactMakNextRow.holds Try.pinned (OpenSpec.ofChange fnExactMakNextWrong)

/-- 'laws.FnExactMakKey': WHATEVER THE INPUT: true; the input reads as it did. -/
def fnExactMakKeySpec : ChangeSpec := { name := "fnExactMakKey", fn := fun _ => fun
  | [d] => { results := [.lit (.bool true)], args := [d] }
  | _ => none }
def fnExactMakKeyRow : OpenClaim := { program := "ytkhjolfofcnhiaq", sum := "938f7fbfb6fe79abd8891bc7b53f68f998d41abbd6f9c4d9fe6490fc5b210cbf", func := "loop.example/keyward/laws.FnExactMakKey", spec := "fnExactMakKey", unfollowed := true, recurses := true, apart := false }
def FnExactMakKeySaid : Prop := fnExactMakKeyRow.holds Try.pinned (OpenSpec.ofChange fnExactMakKeySpec)

/-- ITS FALSE NEIGHBOUR: 'it returns false'. Refute it at one input. -/
def fnExactMakKeyWrong : ChangeSpec := { name := "fnExactMakKey", fn := fun _ => fun
  | [d] => { results := [.lit (.bool false)], args := [d] }
  | _ => none }
def FnExactMakKeyWrongFalsely : Prop := fnExactMakKeyRow.holds Try.pinned (OpenSpec.ofChange fnExactMakKeyWrong)

/-- 'laws.FnExactMakEpoch': WHATEVER THE INPUT: true; the input reads as it did. -/
def fnExactMakEpochSpec : ChangeSpec := { name := "fnExactMakEpoch", fn := fun _ => fun
  | [d1, d2] => { results := [.lit (.bool true)], args := [d1, d2] }
  | _ => none }
def fnExactMakEpochRow : OpenClaim := { program := "ytkhjolfofcnhiaq", sum := "938f7fbfb6fe79abd8891bc7b53f68f998d41abbd6f9c4d9fe6490fc5b210cbf", func := "loop.example/keyward/laws.FnExactMakEpoch", spec := "fnExactMakEpoch", unfollowed := true, recurses := true, apart := false }
def FnExactMakEpochSaid : Prop := fnExactMakEpochRow.holds Try.pinned (OpenSpec.ofChange fnExactMakEpochSpec)

/-- ITS FALSE NEIGHBOUR: 'it returns false'. Refute it at one input. -/
def fnExactMakEpochWrong : ChangeSpec := { name := "fnExactMakEpoch", fn := fun _ => fun
  | [d1, d2] => { results := [.lit (.bool false)], args := [d1, d2] }
  | _ => none }
def FnExactMakEpochWrongFalsely : Prop := fnExactMakEpochRow.holds Try.pinned (OpenSpec.ofChange fnExactMakEpochWrong)

/- THE SECOND FORM. 'bulk': how many values and letters a reading holds, each counted each time it is reached (what is shared counts as often as it is met; a slice's spare places count too). A statement '..UptoSaid' is the law's where the arguments, and the package variables that the reading takes, are together of bulk at most 1048576: NARROWER than '..Said'. Prove '..Said' where nothing that the law and all that it calls make is longer than what came in: it says more and counts as full. Else prove '..UptoSaid'. A law counts once. -/
mutual
def uptoBulk {H : Type} : DataW H → Nat
  | .lit (.string bytes) => bytes.length + 1
  | .lit _ => 1
  | .nil => 1
  | .ptr d => uptoBulk d + 1
  | .slice elems spare => uptoBulkAll elems + uptoBulkAll spare + 1
  | .agg parts => uptoBulkAll parts + 1
  | .iface _ d => uptoBulk d + 1
  | .map entries => uptoBulkEntries entries + 1
  | .held _ => 1
def uptoBulkAll {H : Type} : List (DataW H) → Nat
  | [] => 0
  | d :: r => uptoBulk d + uptoBulkAll r
def uptoBulkEntries {H : Type} : List (Lit × DataW H) → Nat
  | [] => 0
  | x :: r => uptoBulkEntry x + uptoBulkEntries r
def uptoBulkEntry {H : Type} : Lit × DataW H → Nat
  | (.string bytes, d) => bytes.length + uptoBulk d + 1
  | (_, d) => uptoBulk d + 1
 end
def uptoSmall : (H : Type) → List (DataW H) → Bool := fun _ ds => decide (uptoBulkAll ds ≤ 1048576)
def OpenSpec.upto (s : _root_.Go.ChangeSpec) : _root_.Go.OpenSpec := { _root_.Go.OpenSpec.ofChange s with cond := some uptoSmall }

/-- 'laws.FnExactMakNew', WHERE WHAT IT READS IS OF BULK AT MOST 1048576: true; the input reads as it did. -/
def fnExactMakNewUptoRow : OpenClaim := { program := "ytkhjolfofcnhiaq", sum := "938f7fbfb6fe79abd8891bc7b53f68f998d41abbd6f9c4d9fe6490fc5b210cbf", func := "loop.example/keyward/laws.FnExactMakNew", spec := "fnExactMakNew", unfollowed := true, recurses := true, apart := false, narrowed := true }
def FnExactMakNewUptoSaid : Prop := fnExactMakNewUptoRow.holds Try.pinned (OpenSpec.upto fnExactMakNewSpec)

/-- 'laws.FnExactSecOk', WHERE WHAT IT READS IS OF BULK AT MOST 1048576: true; the input reads as it did. -/
def fnExactSecOkUptoRow : OpenClaim := { program := "ytkhjolfofcnhiaq", sum := "938f7fbfb6fe79abd8891bc7b53f68f998d41abbd6f9c4d9fe6490fc5b210cbf", func := "loop.example/keyward/laws.FnExactSecOk", spec := "fnExactSecOk", recurses := true, apart := false, narrowed := true }
def FnExactSecOkUptoSaid : Prop := fnExactSecOkUptoRow.holds Try.pinned (OpenSpec.upto fnExactSecOkSpec)

/-- 'laws.FnExactMakNext', WHERE WHAT IT READS IS OF BULK AT MOST 1048576: true; the input reads as it did. -/
def fnExactMakNextUptoRow : OpenClaim := { program := "ytkhjolfofcnhiaq", sum := "938f7fbfb6fe79abd8891bc7b53f68f998d41abbd6f9c4d9fe6490fc5b210cbf", func := "loop.example/keyward/laws.FnExactMakNext", spec := "fnExactMakNext", unfollowed := true, recurses := true, apart := false, narrowed := true }
def FnExactMakNextUptoSaid : Prop := fnExactMakNextUptoRow.holds Try.pinned (OpenSpec.upto fnExactMakNextSpec)

/-- 'laws.FnExactMakKey', WHERE WHAT IT READS IS OF BULK AT MOST 1048576: true; the input reads as it did. -/
def fnExactMakKeyUptoRow : OpenClaim := { program := "ytkhjolfofcnhiaq", sum := "938f7fbfb6fe79abd8891bc7b53f68f998d41abbd6f9c4d9fe6490fc5b210cbf", func := "loop.example/keyward/laws.FnExactMakKey", spec := "fnExactMakKey", unfollowed := true, recurses := true, apart := false, narrowed := true }
def FnExactMakKeyUptoSaid : Prop := fnExactMakKeyUptoRow.holds Try.pinned (OpenSpec.upto fnExactMakKeySpec)

/-- 'laws.FnExactMakEpoch', WHERE WHAT IT READS IS OF BULK AT MOST 1048576: true; the input reads as it did. -/
def fnExactMakEpochUptoRow : OpenClaim := { program := "ytkhjolfofcnhiaq", sum := "938f7fbfb6fe79abd8891bc7b53f68f998d41abbd6f9c4d9fe6490fc5b210cbf", func := "loop.example/keyward/laws.FnExactMakEpoch", spec := "fnExactMakEpoch", unfollowed := true, recurses := true, apart := false, narrowed := true }
def FnExactMakEpochUptoSaid : Prop := fnExactMakEpochUptoRow.holds Try.pinned (OpenSpec.upto fnExactMakEpochSpec)

end Rows
end Go.Proofs.Ytkhjolfofcnhiaq
