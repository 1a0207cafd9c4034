/-
  No cell of these rows narrows 'for every input' (looked for: loops, veiled, ifaces, maps, wideKeys, modest, calm, conditions, laid).
  DERIVED. THE GIVEN ROWS OF THIS SEAT. 3 by the template 'for every input the law returns true; each argument reads behind the call as it read before'; 0 by the template 'total and deterministic' (their statements: YtkhjolfofcnhiaiTotals.lean).
  GIVEN WITH THE SEED: the statements are not yours to turn. If you find one false, say at which input.
  Laid BY PROGRAM, IN A SANDBOX (cutbox-rows.mjs): the forced cells as the released guide's own fill.sh prints them over the translation bd7f3e423768e1ad… (all of the seat's roots in one cut). By AI agents, Wed Nov 11 2026. No macro, syntax, notation, axiom, sorry.
-/
import Derived.Test.YtkhjolfofcnhiaiChecked
import GoSem.Claim
import GoSem.ClaimJoined
import GoSem.ClaimMapViews
import Derived.JoinedTies
import Derived.KernelRfl
namespace Go.Proofs.Ytkhjolfofcnhiai
/- THE CELL 'sum', in the pinned program and in every row, IS THE sha256 OF THE DUMP (.gsa) THAT YtkhjolfofcnhiaiProg.lean LOADS. Nothing in Lean hashes anything: it is a label: what it is worth is what the hold of that sum in a sandbox is worth. -/
noncomputable def Try.pinned : Pinned := { name := "ytkhjolfofcnhiai", sum := "bd7f3e423768e1adb24ed560f07cef804876bd89cfafe33f78c1d1bbf5a74b84", checked := Try.checked }
namespace Rows
def none {H : Type} : Left H := { results := [], args := [] }

/-- 'laws.FnSecParts': WHATEVER THE INPUT: true; the input reads as it did. -/
def fnSecPartsSpec : ChangeSpec := { name := "fnSecParts", fn := fun _ => fun
  | [d] => { results := [.lit (.bool true)], args := [d] }
  | _ => none }
def fnSecPartsRow : OpenClaim := { program := "ytkhjolfofcnhiai", sum := "bd7f3e423768e1adb24ed560f07cef804876bd89cfafe33f78c1d1bbf5a74b84", func := "loop.example/keyward/laws.FnSecParts", spec := "fnSecParts", recurses := true, apart := false }
def FnSecPartsSaid : Prop := fnSecPartsRow.holds Try.pinned (OpenSpec.ofChange fnSecPartsSpec)

/-- ITS FALSE NEIGHBOUR: 'it returns false'. Refute it at one input. -/
def fnSecPartsWrong : ChangeSpec := { name := "fnSecParts", fn := fun _ => fun
  | [d] => { results := [.lit (.bool false)], args := [d] }
  | _ => none }
def FnSecPartsWrongFalsely : Prop := fnSecPartsRow.holds Try.pinned (OpenSpec.ofChange fnSecPartsWrong)

/-- 'laws.FnSecApart': WHATEVER THE INPUT: true; the input reads as it did. -/
def fnSecApartSpec : ChangeSpec := { name := "fnSecApart", fn := fun _ => fun
  | [d] => { results := [.lit (.bool true)], args := [d] }
  | _ => none }
def fnSecApartRow : OpenClaim := { program := "ytkhjolfofcnhiai", sum := "bd7f3e423768e1adb24ed560f07cef804876bd89cfafe33f78c1d1bbf5a74b84", func := "loop.example/keyward/laws.FnSecApart", spec := "fnSecApart", unfollowed := true, recurses := true, apart := false }
def FnSecApartSaid : Prop := fnSecApartRow.holds Try.pinned (OpenSpec.ofChange fnSecApartSpec)

/-- ITS FALSE NEIGHBOUR: 'it returns false'. Refute it at one input. -/
def fnSecApartWrong : ChangeSpec := { name := "fnSecApart", fn := fun _ => fun
  | [d] => { results := [.lit (.bool false)], args := [d] }
  | _ => none }
def FnSecApartWrongFalsely : Prop := fnSecApartRow.holds Try.pinned (OpenSpec.ofChange fnSecApartWrong)

/-- 'laws.FnKnwNone': WHATEVER THE INPUT: true; the input reads as it did. -/
def fnKnwNoneSpec : ChangeSpec := { name := "fnKnwNone", fn := fun _ => fun
  | [d] => { results := [.lit (.bool true)], args := [d] }
  | _ => none }
def fnKnwNoneRow : OpenClaim := { program := "ytkhjolfofcnhiai", sum := "bd7f3e423768e1adb24ed560f07cef804876bd89cfafe33f78c1d1bbf5a74b84", func := "loop.example/keyward/laws.FnKnwNone", spec := "fnKnwNone", recurses := true, apart := false }
def FnKnwNoneSaid : Prop := fnKnwNoneRow.holds Try.pinned (OpenSpec.ofChange fnKnwNoneSpec)

/-- ITS FALSE NEIGHBOUR: 'it returns false'. Refute it at one input. -/
def fnKnwNoneWrong : ChangeSpec := { name := "fnKnwNone", fn := fun _ => fun
  | [d] => { results := [.lit (.bool false)], args := [d] }
  | _ => none }
def FnKnwNoneWrongFalsely : Prop := fnKnwNoneRow.holds Try.pinned (OpenSpec.ofChange fnKnwNoneWrong)

/- THE SECOND FORM. 'bulk': how many values and letters a reading holds, each counted each time it is reached (what is shared counts as often as it is met; a slice's spare places count too). A statement '..UptoSaid' is the law's where the arguments, and the package variables that the reading takes, are together of bulk at most 1048576: NARROWER than '..Said'. Prove '..Said' where nothing that the law and all that it calls make is longer than what came in: it says more and counts as full. Else prove '..UptoSaid'. A law counts once. -/
mutual
def uptoBulk {H : Type} : DataW H → Nat
  | .lit (.string bytes) => bytes.length + 1
  | .lit _ => 1
  | .nil => 1
  | .ptr d => uptoBulk d + 1
  | .slice elems spare => uptoBulkAll elems + uptoBulkAll spare + 1
  | .agg parts => uptoBulkAll parts + 1
  | .iface _ d => uptoBulk d + 1
  | .map entries => uptoBulkEntries entries + 1
  | .held _ => 1
def uptoBulkAll {H : Type} : List (DataW H) → Nat
  | [] => 0
  | d :: r => uptoBulk d + uptoBulkAll r
def uptoBulkEntries {H : Type} : List (Lit × DataW H) → Nat
  | [] => 0
  | x :: r => uptoBulkEntry x + uptoBulkEntries r
def uptoBulkEntry {H : Type} : Lit × DataW H → Nat
  | (.string bytes, d) => bytes.length + uptoBulk d + 1
  | (_, d) => uptoBulk d + 1
 end
def uptoSmall : (H : Type) → List (DataW H) → Bool := fun _ ds => decide (uptoBulkAll ds ≤ 1048576)
def OpenSpec.upto (s : _root_.Go.ChangeSpec) : _root_.Go.OpenSpec := { _root_.Go.OpenSpec.ofChange s with cond := some uptoSmall }

/-- 'laws.FnSecParts', WHERE WHAT IT READS IS OF BULK AT MOST 1048576: true; the input reads as it did. -/
def fnSecPartsUptoRow : OpenClaim := { program := "ytkhjolfofcnhiai", sum := "bd7f3e423768e1adb24ed560f07cef804876bd89cfafe33f78c1d1bbf5a74b84", func := "loop.example/keyward/laws.FnSecParts", spec := "fnSecParts", recurses := true, apart := false, narrowed := true }
def FnSecPartsUptoSaid : Prop := fnSecPartsUptoRow.holds Try.pinned (OpenSpec.upto fnSecPartsSpec)

/-- 'laws.FnSecApart', WHERE WHAT IT READS IS OF BULK AT MOST 1048576: true; the input reads as it did. -/
def fnSecApartUptoRow : OpenClaim := { program := "ytkhjolfofcnhiai", sum := "bd7f3e423768e1adb24ed560f07cef804876bd89cfafe33f78c1d1bbf5a74b84", func := "loop.example/keyward/laws.FnSecApart", spec := "fnSecApart", unfollowed := true, recurses := true, apart := false, narrowed := true }
def FnSecApartUptoSaid : Prop := fnSecApartUptoRow.holds Try.pinned (OpenSpec.upto fnSecApartSpec)

/-- 'laws.FnKnwNone', WHERE WHAT IT READS IS OF BULK AT MOST 1048576: true; the input reads as it did. -/
def fnKnwNoneUptoRow : OpenClaim := { program := "ytkhjolfofcnhiai", sum := "bd7f3e423768e1adb24ed560f07cef804876bd89cfafe33f78c1d1bbf5a74b84", func := "loop.example/keyward/laws.FnKnwNone", spec := "fnKnwNone", recurses := true, apart := false, narrowed := true }
def FnKnwNoneUptoSaid : Prop := fnKnwNoneUptoRow.holds Try.pinned (OpenSpec.upto fnKnwNoneSpec)

end Rows
end Go.Proofs.Ytkhjolfofcnhiai
