/-
  No cell of these rows narrows 'for every input' (looked for: loops, veiled, ifaces, maps, wideKeys, modest, calm, conditions, laid).
  DERIVED. THE GIVEN ROWS OF THIS SEAT. 11 by the template 'for every input the law returns true; each argument reads behind the call as it read before'; 0 by the template 'total and deterministic' (their statements: YtjdpabiodalfkaaTotals.lean).
  GIVEN WITH THE SEED: the statements are not yours to turn. If you find one false, say at which input.
  Laid BY PROGRAM, IN A SANDBOX (cutbox-rows.mjs): the forced cells as the released guide's own fill.sh prints them over the translation fe025cfc3fb0fea4… (all of the seat's roots in one cut). By AI agents, Wed Nov 11 2026. No macro, syntax, notation, axiom, sorry.
-/
import Derived.Test.YtjdpabiodalfkaaChecked
import GoSem.Claim
import GoSem.ClaimJoined
import GoSem.ClaimMapViews
import Derived.JoinedTies
import Derived.KernelRfl
namespace Go.Proofs.Ytjdpabiodalfkaa
/- THE CELL 'sum', in the pinned program and in every row, IS THE sha256 OF THE DUMP (.gsa) THAT YtjdpabiodalfkaaProg.lean LOADS. Nothing in Lean hashes anything: it is a label: what it is worth is what the hold of that sum in a sandbox is worth. -/
noncomputable def Try.pinned : Pinned := { name := "ytjdpabiodalfkaa", sum := "fe025cfc3fb0fea494f2957e9cad1a472e046c20356514de84ecde9e4330f4fa", checked := Try.checked }
namespace Rows
def none {H : Type} : Left H := { results := [], args := [] }

/-- 'laws.FnKnwMake': WHATEVER THE INPUT: true; the input reads as it did. -/
def fnKnwMakeSpec : ChangeSpec := { name := "fnKnwMake", fn := fun _ => fun
  | [d1, d2] => { results := [.lit (.bool true)], args := [d1, d2] }
  | _ => none }
def fnKnwMakeRow : OpenClaim := { program := "ytjdpabiodalfkaa", sum := "fe025cfc3fb0fea494f2957e9cad1a472e046c20356514de84ecde9e4330f4fa", func := "loop.example/keyward/laws.FnKnwMake", spec := "fnKnwMake", unfollowed := true, recurses := true, apart := false }
def FnKnwMakeSaid : Prop := fnKnwMakeRow.holds Try.pinned (OpenSpec.ofChange fnKnwMakeSpec)

/-- ITS FALSE NEIGHBOUR: 'it returns false'. Refute it at one input. -/
def fnKnwMakeWrong : ChangeSpec := { name := "fnKnwMake", fn := fun _ => fun
  | [d1, d2] => { results := [.lit (.bool false)], args := [d1, d2] }
  | _ => none }
def FnKnwMakeWrongFalsely : Prop := fnKnwMakeRow.holds Try.pinned (OpenSpec.ofChange fnKnwMakeWrong)

/-- 'laws.FnKnwBack': WHATEVER THE INPUT: true; the input reads as it did. -/
def fnKnwBackSpec : ChangeSpec := { name := "fnKnwBack", fn := fun _ => fun
  | [d] => { results := [.lit (.bool true)], args := [d] }
  | _ => none }
def fnKnwBackRow : OpenClaim := { program := "ytjdpabiodalfkaa", sum := "fe025cfc3fb0fea494f2957e9cad1a472e046c20356514de84ecde9e4330f4fa", func := "loop.example/keyward/laws.FnKnwBack", spec := "fnKnwBack", unfollowed := true, recurses := true, apart := false }
def FnKnwBackSaid : Prop := fnKnwBackRow.holds Try.pinned (OpenSpec.ofChange fnKnwBackSpec)

/-- ITS FALSE NEIGHBOUR: 'it returns false'. Refute it at one input. -/
def fnKnwBackWrong : ChangeSpec := { name := "fnKnwBack", fn := fun _ => fun
  | [d] => { results := [.lit (.bool false)], args := [d] }
  | _ => none }
def FnKnwBackWrongFalsely : Prop := fnKnwBackRow.holds Try.pinned (OpenSpec.ofChange fnKnwBackWrong)

/-- 'laws.FnKnwOpen': WHATEVER THE INPUT: true; the input reads as it did. -/
def fnKnwOpenSpec : ChangeSpec := { name := "fnKnwOpen", fn := fun _ => fun
  | [d] => { results := [.lit (.bool true)], args := [d] }
  | _ => none }
def fnKnwOpenRow : OpenClaim := { program := "ytjdpabiodalfkaa", sum := "fe025cfc3fb0fea494f2957e9cad1a472e046c20356514de84ecde9e4330f4fa", func := "loop.example/keyward/laws.FnKnwOpen", spec := "fnKnwOpen", recurses := true, apart := false }
def FnKnwOpenSaid : Prop := fnKnwOpenRow.holds Try.pinned (OpenSpec.ofChange fnKnwOpenSpec)

/-- ITS FALSE NEIGHBOUR: 'it returns false'. Refute it at one input. -/
def fnKnwOpenWrong : ChangeSpec := { name := "fnKnwOpen", fn := fun _ => fun
  | [d] => { results := [.lit (.bool false)], args := [d] }
  | _ => none }
def FnKnwOpenWrongFalsely : Prop := fnKnwOpenRow.holds Try.pinned (OpenSpec.ofChange fnKnwOpenWrong)

/-- 'laws.FnKnwHas': WHATEVER THE INPUT: true; the input reads as it did. -/
def fnKnwHasSpec : ChangeSpec := { name := "fnKnwHas", fn := fun _ => fun
  | [d] => { results := [.lit (.bool true)], args := [d] }
  | _ => none }
def fnKnwHasRow : OpenClaim := { program := "ytjdpabiodalfkaa", sum := "fe025cfc3fb0fea494f2957e9cad1a472e046c20356514de84ecde9e4330f4fa", func := "loop.example/keyward/laws.FnKnwHas", spec := "fnKnwHas", recurses := true, apart := false }
def FnKnwHasSaid : Prop := fnKnwHasRow.holds Try.pinned (OpenSpec.ofChange fnKnwHasSpec)

/-- ITS FALSE NEIGHBOUR: 'it returns false'. Refute it at one input. -/
def fnKnwHasWrong : ChangeSpec := { name := "fnKnwHas", fn := fun _ => fun
  | [d] => { results := [.lit (.bool false)], args := [d] }
  | _ => none }
def FnKnwHasWrongFalsely : Prop := fnKnwHasRow.holds Try.pinned (OpenSpec.ofChange fnKnwHasWrong)

/-- 'laws.FnKnwNone': WHATEVER THE INPUT: true; the input reads as it did. -/
def fnKnwNoneSpec : ChangeSpec := { name := "fnKnwNone", fn := fun _ => fun
  | [d] => { results := [.lit (.bool true)], args := [d] }
  | _ => none }
def fnKnwNoneRow : OpenClaim := { program := "ytjdpabiodalfkaa", sum := "fe025cfc3fb0fea494f2957e9cad1a472e046c20356514de84ecde9e4330f4fa", func := "loop.example/keyward/laws.FnKnwNone", spec := "fnKnwNone", recurses := true, apart := false }
def FnKnwNoneSaid : Prop := fnKnwNoneRow.holds Try.pinned (OpenSpec.ofChange fnKnwNoneSpec)

/-- ITS FALSE NEIGHBOUR: 'it returns false'. Refute it at one input. -/
def fnKnwNoneWrong : ChangeSpec := { name := "fnKnwNone", fn := fun _ => fun
  | [d] => { results := [.lit (.bool false)], args := [d] }
  | _ => none }
def FnKnwNoneWrongFalsely : Prop := fnKnwNoneRow.holds Try.pinned (OpenSpec.ofChange fnKnwNoneWrong)

/-- 'laws.FnKnwChain': WHATEVER THE INPUT: true; the input reads as it did. -/
def fnKnwChainSpec : ChangeSpec := { name := "fnKnwChain", fn := fun _ => fun
  | [d] => { results := [.lit (.bool true)], args := [d] }
  | _ => none }
def fnKnwChainRow : OpenClaim := { program := "ytjdpabiodalfkaa", sum := "fe025cfc3fb0fea494f2957e9cad1a472e046c20356514de84ecde9e4330f4fa", func := "loop.example/keyward/laws.FnKnwChain", spec := "fnKnwChain", unfollowed := true, recurses := true, apart := false }
def FnKnwChainSaid : Prop := fnKnwChainRow.holds Try.pinned (OpenSpec.ofChange fnKnwChainSpec)

/-- ITS FALSE NEIGHBOUR: 'it returns false'. Refute it at one input. -/
def fnKnwChainWrong : ChangeSpec := { name := "fnKnwChain", fn := fun _ => fun
  | [d] => { results := [.lit (.bool false)], args := [d] }
  | _ => none }
def FnKnwChainWrongFalsely : Prop := fnKnwChainRow.holds Try.pinned (OpenSpec.ofChange fnKnwChainWrong)

/-- 'laws.FnKnwMore': WHATEVER THE INPUT: true; the input reads as it did. -/
def fnKnwMoreSpec : ChangeSpec := { name := "fnKnwMore", fn := fun _ => fun
  | [d1, d2] => { results := [.lit (.bool true)], args := [d1, d2] }
  | _ => none }
def fnKnwMoreRow : OpenClaim := { program := "ytjdpabiodalfkaa", sum := "fe025cfc3fb0fea494f2957e9cad1a472e046c20356514de84ecde9e4330f4fa", func := "loop.example/keyward/laws.FnKnwMore", spec := "fnKnwMore", recurses := true, apart := false }
def FnKnwMoreSaid : Prop := fnKnwMoreRow.holds Try.pinned (OpenSpec.ofChange fnKnwMoreSpec)

/-- ITS FALSE NEIGHBOUR: 'it returns false'. Refute it at one input. -/
def fnKnwMoreWrong : ChangeSpec := { name := "fnKnwMore", fn := fun _ => fun
  | [d1, d2] => { results := [.lit (.bool false)], args := [d1, d2] }
  | _ => none }
def FnKnwMoreWrongFalsely : Prop := fnKnwMoreRow.holds Try.pinned (OpenSpec.ofChange fnKnwMoreWrong)

/-- 'laws.FnKnwParts': WHATEVER THE INPUT: true; the input reads as it did. -/
def fnKnwPartsSpec : ChangeSpec := { name := "fnKnwParts", fn := fun _ => fun
  | [d] => { results := [.lit (.bool true)], args := [d] }
  | _ => none }
def fnKnwPartsRow : OpenClaim := { program := "ytjdpabiodalfkaa", sum := "fe025cfc3fb0fea494f2957e9cad1a472e046c20356514de84ecde9e4330f4fa", func := "loop.example/keyward/laws.FnKnwParts", spec := "fnKnwParts", recurses := true, apart := false }
def FnKnwPartsSaid : Prop := fnKnwPartsRow.holds Try.pinned (OpenSpec.ofChange fnKnwPartsSpec)

/-- ITS FALSE NEIGHBOUR: 'it returns false'. Refute it at one input. -/
def fnKnwPartsWrong : ChangeSpec := { name := "fnKnwParts", fn := fun _ => fun
  | [d] => { results := [.lit (.bool false)], args := [d] }
  | _ => none }
def FnKnwPartsWrongFalsely : Prop := fnKnwPartsRow.holds Try.pinned (OpenSpec.ofChange fnKnwPartsWrong)

/-- 'laws.FnExactKnwMake': WHATEVER THE INPUT: true; the input reads as it did. -/
def fnExactKnwMakeSpec : ChangeSpec := { name := "fnExactKnwMake", fn := fun _ => fun
  | [d1, d2] => { results := [.lit (.bool true)], args := [d1, d2] }
  | _ => none }
def fnExactKnwMakeRow : OpenClaim := { program := "ytjdpabiodalfkaa", sum := "fe025cfc3fb0fea494f2957e9cad1a472e046c20356514de84ecde9e4330f4fa", func := "loop.example/keyward/laws.FnExactKnwMake", spec := "fnExactKnwMake", recurses := true, apart := false }
def FnExactKnwMakeSaid : Prop := fnExactKnwMakeRow.holds Try.pinned (OpenSpec.ofChange fnExactKnwMakeSpec)

/-- ITS FALSE NEIGHBOUR: 'it returns false'. Refute it at one input. -/
def fnExactKnwMakeWrong : ChangeSpec := { name := "fnExactKnwMake", fn := fun _ => fun
  | [d1, d2] => { results := [.lit (.bool false)], args := [d1, d2] }
  | _ => none }
def FnExactKnwMakeWrongFalsely : Prop := fnExactKnwMakeRow.holds Try.pinned (OpenSpec.ofChange fnExactKnwMakeWrong)

/-- 'laws.FnExactKnwOpen': WHATEVER THE INPUT: true; the input reads as it did. -/
def fnExactKnwOpenSpec : ChangeSpec := { name := "fnExactKnwOpen", fn := fun _ => fun
  | [d1, d2] => { results := [.lit (.bool true)], args := [d1, d2] }
  | _ => none }
def fnExactKnwOpenRow : OpenClaim := { program := "ytjdpabiodalfkaa", sum := "fe025cfc3fb0fea494f2957e9cad1a472e046c20356514de84ecde9e4330f4fa", func := "loop.example/keyward/laws.FnExactKnwOpen", spec := "fnExactKnwOpen", recurses := true, apart := false }
def FnExactKnwOpenSaid : Prop := fnExactKnwOpenRow.holds Try.pinned (OpenSpec.ofChange fnExactKnwOpenSpec)

/-- ITS FALSE NEIGHBOUR: 'it returns false'. Refute it at one input. -/
def fnExactKnwOpenWrong : ChangeSpec := { name := "fnExactKnwOpen", fn := fun _ => fun
  | [d1, d2] => { results := [.lit (.bool false)], args := [d1, d2] }
  | _ => none }
def FnExactKnwOpenWrongFalsely : Prop := fnExactKnwOpenRow.holds Try.pinned (OpenSpec.ofChange fnExactKnwOpenWrong)

/-- 'laws.FnExactKnwHas': WHATEVER THE INPUT: true; the input reads as it did. -/
def fnExactKnwHasSpec : ChangeSpec := { name := "fnExactKnwHas", fn := fun _ => fun
  | [d1, d2, d3] => { results := [.lit (.bool true)], args := [d1, d2, d3] }
  | _ => none }
def fnExactKnwHasRow : OpenClaim := { program := "ytjdpabiodalfkaa", sum := "fe025cfc3fb0fea494f2957e9cad1a472e046c20356514de84ecde9e4330f4fa", func := "loop.example/keyward/laws.FnExactKnwHas", spec := "fnExactKnwHas", recurses := true, apart := false }
def FnExactKnwHasSaid : Prop := fnExactKnwHasRow.holds Try.pinned (OpenSpec.ofChange fnExactKnwHasSpec)

/-- ITS FALSE NEIGHBOUR: 'it returns false'. Refute it at one input. -/
def fnExactKnwHasWrong : ChangeSpec := { name := "fnExactKnwHas", fn := fun _ => fun
  | [d1, d2, d3] => { results := [.lit (.bool false)], args := [d1, d2, d3] }
  | _ => none }
def FnExactKnwHasWrongFalsely : Prop := fnExactKnwHasRow.holds Try.pinned (OpenSpec.ofChange fnExactKnwHasWrong)

/- THE SECOND FORM. 'bulk': how many values and letters a reading holds, each counted each time it is reached (what is shared counts as often as it is met; a slice's spare places count too). A statement '..UptoSaid' is the law's where the arguments, and the package variables that the reading takes, are together of bulk at most 1048576: NARROWER than '..Said'. Prove '..Said' where nothing that the law and all that it calls make is longer than what came in: it says more and counts as full. Else prove '..UptoSaid'. A law counts once. -/
mutual
def uptoBulk {H : Type} : DataW H → Nat
  | .lit (.string bytes) => bytes.length + 1
  | .lit _ => 1
  | .nil => 1
  | .ptr d => uptoBulk d + 1
  | .slice elems spare => uptoBulkAll elems + uptoBulkAll spare + 1
  | .agg parts => uptoBulkAll parts + 1
  | .iface _ d => uptoBulk d + 1
  | .map entries => uptoBulkEntries entries + 1
  | .held _ => 1
def uptoBulkAll {H : Type} : List (DataW H) → Nat
  | [] => 0
  | d :: r => uptoBulk d + uptoBulkAll r
def uptoBulkEntries {H : Type} : List (Lit × DataW H) → Nat
  | [] => 0
  | x :: r => uptoBulkEntry x + uptoBulkEntries r
def uptoBulkEntry {H : Type} : Lit × DataW H → Nat
  | (.string bytes, d) => bytes.length + uptoBulk d + 1
  | (_, d) => uptoBulk d + 1
 end
def uptoSmall : (H : Type) → List (DataW H) → Bool := fun _ ds => decide (uptoBulkAll ds ≤ 1048576)
def OpenSpec.upto (s : _root_.Go.ChangeSpec) : _root_.Go.OpenSpec := { _root_.Go.OpenSpec.ofChange s with cond := some uptoSmall }

/-- 'laws.FnKnwMake', WHERE WHAT IT READS IS OF BULK AT MOST 1048576: true; the input reads as it did. -/
def fnKnwMakeUptoRow : OpenClaim := { program := "ytjdpabiodalfkaa", sum := "fe025cfc3fb0fea494f2957e9cad1a472e046c20356514de84ecde9e4330f4fa", func := "loop.example/keyward/laws.FnKnwMake", spec := "fnKnwMake", unfollowed := true, recurses := true, apart := false, narrowed := true }
def FnKnwMakeUptoSaid : Prop := fnKnwMakeUptoRow.holds Try.pinned (OpenSpec.upto fnKnwMakeSpec)

/-- 'laws.FnKnwBack', WHERE WHAT IT READS IS OF BULK AT MOST 1048576: true; the input reads as it did. -/
def fnKnwBackUptoRow : OpenClaim := { program := "ytjdpabiodalfkaa", sum := "fe025cfc3fb0fea494f2957e9cad1a472e046c20356514de84ecde9e4330f4fa", func := "loop.example/keyward/laws.FnKnwBack", spec := "fnKnwBack", unfollowed := true, recurses := true, apart := false, narrowed := true }
def FnKnwBackUptoSaid : Prop := fnKnwBackUptoRow.holds Try.pinned (OpenSpec.upto fnKnwBackSpec)

/-- 'laws.FnKnwOpen', WHERE WHAT IT READS IS OF BULK AT MOST 1048576: true; the input reads as it did. -/
def fnKnwOpenUptoRow : OpenClaim := { program := "ytjdpabiodalfkaa", sum := "fe025cfc3fb0fea494f2957e9cad1a472e046c20356514de84ecde9e4330f4fa", func := "loop.example/keyward/laws.FnKnwOpen", spec := "fnKnwOpen", recurses := true, apart := false, narrowed := true }
def FnKnwOpenUptoSaid : Prop := fnKnwOpenUptoRow.holds Try.pinned (OpenSpec.upto fnKnwOpenSpec)

/-- 'laws.FnKnwHas', WHERE WHAT IT READS IS OF BULK AT MOST 1048576: true; the input reads as it did. -/
def fnKnwHasUptoRow : OpenClaim := { program := "ytjdpabiodalfkaa", sum := "fe025cfc3fb0fea494f2957e9cad1a472e046c20356514de84ecde9e4330f4fa", func := "loop.example/keyward/laws.FnKnwHas", spec := "fnKnwHas", recurses := true, apart := false, narrowed := true }
def FnKnwHasUptoSaid : Prop := fnKnwHasUptoRow.holds Try.pinned (OpenSpec.upto fnKnwHasSpec)

/-- 'laws.FnKnwNone', WHERE WHAT IT READS IS OF BULK AT MOST 1048576: true; the input reads as it did. -/
def fnKnwNoneUptoRow : OpenClaim := { program := "ytjdpabiodalfkaa", sum := "fe025cfc3fb0fea494f2957e9cad1a472e046c20356514de84ecde9e4330f4fa", func := "loop.example/keyward/laws.FnKnwNone", spec := "fnKnwNone", recurses := true, apart := false, narrowed := true }
def FnKnwNoneUptoSaid : Prop := fnKnwNoneUptoRow.holds Try.pinned (OpenSpec.upto fnKnwNoneSpec)

/-- 'laws.FnKnwChain', WHERE WHAT IT READS IS OF BULK AT MOST 1048576: true; the input reads as it did. -/
def fnKnwChainUptoRow : OpenClaim := { program := "ytjdpabiodalfkaa", sum := "fe025cfc3fb0fea494f2957e9cad1a472e046c20356514de84ecde9e4330f4fa", func := "loop.example/keyward/laws.FnKnwChain", spec := "fnKnwChain", unfollowed := true, recurses := true, apart := false, narrowed := true }
def FnKnwChainUptoSaid : Prop := fnKnwChainUptoRow.holds Try.pinned (OpenSpec.upto fnKnwChainSpec)

/-- 'laws.FnKnwMore', WHERE WHAT IT READS IS OF BULK AT MOST 1048576: true; the input reads as it did. -/
def fnKnwMoreUptoRow : OpenClaim := { program := "ytjdpabiodalfkaa", sum := "fe025cfc3fb0fea494f2957e9cad1a472e046c20356514de84ecde9e4330f4fa", func := "loop.example/keyward/laws.FnKnwMore", spec := "fnKnwMore", recurses := true, apart := false, narrowed := true }
def FnKnwMoreUptoSaid : Prop := fnKnwMoreUptoRow.holds Try.pinned (OpenSpec.upto fnKnwMoreSpec)

/-- 'laws.FnKnwParts', WHERE WHAT IT READS IS OF BULK AT MOST 1048576: true; the input reads as it did. -/
def fnKnwPartsUptoRow : OpenClaim := { program := "ytjdpabiodalfkaa", sum := "fe025cfc3fb0fea494f2957e9cad1a472e046c20356514de84ecde9e4330f4fa", func := "loop.example/keyward/laws.FnKnwParts", spec := "fnKnwParts", recurses := true, apart := false, narrowed := true }
def FnKnwPartsUptoSaid : Prop := fnKnwPartsUptoRow.holds Try.pinned (OpenSpec.upto fnKnwPartsSpec)

/-- 'laws.FnExactKnwMake', WHERE WHAT IT READS IS OF BULK AT MOST 1048576: true; the input reads as it did. -/
def fnExactKnwMakeUptoRow : OpenClaim := { program := "ytjdpabiodalfkaa", sum := "fe025cfc3fb0fea494f2957e9cad1a472e046c20356514de84ecde9e4330f4fa", func := "loop.example/keyward/laws.FnExactKnwMake", spec := "fnExactKnwMake", recurses := true, apart := false, narrowed := true }
def FnExactKnwMakeUptoSaid : Prop := fnExactKnwMakeUptoRow.holds Try.pinned (OpenSpec.upto fnExactKnwMakeSpec)

/-- 'laws.FnExactKnwOpen', WHERE WHAT IT READS IS OF BULK AT MOST 1048576: true; the input reads as it did. -/
def fnExactKnwOpenUptoRow : OpenClaim := { program := "ytjdpabiodalfkaa", sum := "fe025cfc3fb0fea494f2957e9cad1a472e046c20356514de84ecde9e4330f4fa", func := "loop.example/keyward/laws.FnExactKnwOpen", spec := "fnExactKnwOpen", recurses := true, apart := false, narrowed := true }
def FnExactKnwOpenUptoSaid : Prop := fnExactKnwOpenUptoRow.holds Try.pinned (OpenSpec.upto fnExactKnwOpenSpec)

/-- 'laws.FnExactKnwHas', WHERE WHAT IT READS IS OF BULK AT MOST 1048576: true; the input reads as it did. -/
def fnExactKnwHasUptoRow : OpenClaim := { program := "ytjdpabiodalfkaa", sum := "fe025cfc3fb0fea494f2957e9cad1a472e046c20356514de84ecde9e4330f4fa", func := "loop.example/keyward/laws.FnExactKnwHas", spec := "fnExactKnwHas", recurses := true, apart := false, narrowed := true }
def FnExactKnwHasUptoSaid : Prop := fnExactKnwHasUptoRow.holds Try.pinned (OpenSpec.upto fnExactKnwHasSpec)

end Rows
end Go.Proofs.Ytjdpabiodalfkaa
