/-
  No cell of these rows narrows 'for every input' (looked for: loops, veiled, ifaces, maps, wideKeys, modest, calm, conditions, laid).
  DERIVED. THE GIVEN ROWS OF THIS SEAT. 9 by the template 'for every input the law returns true; each argument reads behind the call as it read before'; 0 by the template 'total and deterministic' (their statements: YtgdhlnfigcaepaaTotals.lean).
  GIVEN WITH THE SEED: the statements are not yours to turn. If you find one false, say at which input.
  Laid BY PROGRAM, IN A SANDBOX (cutbox-rows.mjs): the forced cells as the released guide's own fill.sh prints them over the translation 5d397deb0efde6dd… (all of the seat's roots in one cut). By AI agents, Wed Nov 11 2026. No macro, syntax, notation, axiom, sorry.
-/
import Derived.Test.YtgdhlnfigcaepaaChecked
import GoSem.Claim
import GoSem.ClaimJoined
import GoSem.ClaimMapViews
import Derived.JoinedTies
import Derived.KernelRfl
namespace Go.Proofs.Ytgdhlnfigcaepaa
/- THE CELL 'sum', in the pinned program and in every row, IS THE sha256 OF THE DUMP (.gsa) THAT YtgdhlnfigcaepaaProg.lean LOADS. Nothing in Lean hashes anything: it is a label: what it is worth is what the hold of that sum in a sandbox is worth. -/
noncomputable def Try.pinned : Pinned := { name := "ytgdhlnfigcaepaa", sum := "5d397deb0efde6dd6f1a89ea69ea80b9ad9bbc7df6ce81fdc6ddfae02edbadcb", checked := Try.checked }
namespace Rows
def none {H : Type} : Left H := { results := [], args := [] }

/-- 'laws.FnExactFraText': WHATEVER THE INPUT: true; the input reads as it did. -/
def fnExactFraTextSpec : ChangeSpec := { name := "fnExactFraText", fn := fun _ => fun
  | [d] => { results := [.lit (.bool true)], args := [d] }
  | _ => none }
def fnExactFraTextRow : OpenClaim := { program := "ytgdhlnfigcaepaa", sum := "5d397deb0efde6dd6f1a89ea69ea80b9ad9bbc7df6ce81fdc6ddfae02edbadcb", func := "loop.example/keyward/laws.FnExactFraText", spec := "fnExactFraText", apart := false }
def FnExactFraTextSaid : Prop := fnExactFraTextRow.holds Try.pinned (OpenSpec.ofChange fnExactFraTextSpec)

/-- ITS FALSE NEIGHBOUR: 'it returns false'. Refute it at one input. -/
def fnExactFraTextWrong : ChangeSpec := { name := "fnExactFraText", fn := fun _ => fun
  | [d] => { results := [.lit (.bool false)], args := [d] }
  | _ => none }
def FnExactFraTextWrongFalsely : Prop := fnExactFraTextRow.holds Try.pinned (OpenSpec.ofChange fnExactFraTextWrong)

/-- 'laws.FnExactFraOk': WHATEVER THE INPUT: true; the input reads as it did. -/
def fnExactFraOkSpec : ChangeSpec := { name := "fnExactFraOk", fn := fun _ => fun
  | [d] => { results := [.lit (.bool true)], args := [d] }
  | _ => none }
def fnExactFraOkRow : OpenClaim := { program := "ytgdhlnfigcaepaa", sum := "5d397deb0efde6dd6f1a89ea69ea80b9ad9bbc7df6ce81fdc6ddfae02edbadcb", func := "loop.example/keyward/laws.FnExactFraOk", spec := "fnExactFraOk", recurses := true, apart := false }
def FnExactFraOkSaid : Prop := fnExactFraOkRow.holds Try.pinned (OpenSpec.ofChange fnExactFraOkSpec)

/-- ITS FALSE NEIGHBOUR: 'it returns false'. Refute it at one input. -/
def fnExactFraOkWrong : ChangeSpec := { name := "fnExactFraOk", fn := fun _ => fun
  | [d] => { results := [.lit (.bool false)], args := [d] }
  | _ => none }
def FnExactFraOkWrongFalsely : Prop := fnExactFraOkRow.holds Try.pinned (OpenSpec.ofChange fnExactFraOkWrong)

/-- 'laws.FnExactWinOk': WHATEVER THE INPUT: true; the input reads as it did. -/
def fnExactWinOkSpec : ChangeSpec := { name := "fnExactWinOk", fn := fun _ => fun
  | [d] => { results := [.lit (.bool true)], args := [d] }
  | _ => none }
def fnExactWinOkRow : OpenClaim := { program := "ytgdhlnfigcaepaa", sum := "5d397deb0efde6dd6f1a89ea69ea80b9ad9bbc7df6ce81fdc6ddfae02edbadcb", func := "loop.example/keyward/laws.FnExactWinOk", spec := "fnExactWinOk", recurses := true, apart := false }
def FnExactWinOkSaid : Prop := fnExactWinOkRow.holds Try.pinned (OpenSpec.ofChange fnExactWinOkSpec)

/-- ITS FALSE NEIGHBOUR: 'it returns false'. Refute it at one input. -/
def fnExactWinOkWrong : ChangeSpec := { name := "fnExactWinOk", fn := fun _ => fun
  | [d] => { results := [.lit (.bool false)], args := [d] }
  | _ => none }
def FnExactWinOkWrongFalsely : Prop := fnExactWinOkRow.holds Try.pinned (OpenSpec.ofChange fnExactWinOkWrong)

/-- 'laws.FnExactWinTake': WHATEVER THE INPUT: true; the input reads as it did. -/
def fnExactWinTakeSpec : ChangeSpec := { name := "fnExactWinTake", fn := fun _ => fun
  | [d1, d2] => { results := [.lit (.bool true)], args := [d1, d2] }
  | _ => none }
def fnExactWinTakeRow : OpenClaim := { program := "ytgdhlnfigcaepaa", sum := "5d397deb0efde6dd6f1a89ea69ea80b9ad9bbc7df6ce81fdc6ddfae02edbadcb", func := "loop.example/keyward/laws.FnExactWinTake", spec := "fnExactWinTake", recurses := true, apart := false }
def FnExactWinTakeSaid : Prop := fnExactWinTakeRow.holds Try.pinned (OpenSpec.ofChange fnExactWinTakeSpec)

/-- ITS FALSE NEIGHBOUR: 'it returns false'. Refute it at one input. -/
def fnExactWinTakeWrong : ChangeSpec := { name := "fnExactWinTake", fn := fun _ => fun
  | [d1, d2] => { results := [.lit (.bool false)], args := [d1, d2] }
  | _ => none }
def FnExactWinTakeWrongFalsely : Prop := fnExactWinTakeRow.holds Try.pinned (OpenSpec.ofChange fnExactWinTakeWrong)

/-- 'laws.FnFraText': WHATEVER THE INPUT: true; the input reads as it did. -/
def fnFraTextSpec : ChangeSpec := { name := "fnFraText", fn := fun _ => fun
  | [d] => { results := [.lit (.bool true)], args := [d] }
  | _ => none }
def fnFraTextRow : OpenClaim := { program := "ytgdhlnfigcaepaa", sum := "5d397deb0efde6dd6f1a89ea69ea80b9ad9bbc7df6ce81fdc6ddfae02edbadcb", func := "loop.example/keyward/laws.FnFraText", spec := "fnFraText", recurses := true, apart := false }
def FnFraTextSaid : Prop := fnFraTextRow.holds Try.pinned (OpenSpec.ofChange fnFraTextSpec)

/-- ITS FALSE NEIGHBOUR: 'it returns false'. Refute it at one input. -/
def fnFraTextWrong : ChangeSpec := { name := "fnFraText", fn := fun _ => fun
  | [d] => { results := [.lit (.bool false)], args := [d] }
  | _ => none }
def FnFraTextWrongFalsely : Prop := fnFraTextRow.holds Try.pinned (OpenSpec.ofChange fnFraTextWrong)

/-- 'laws.FnFraOk': WHATEVER THE INPUT: true; the input reads as it did. -/
def fnFraOkSpec : ChangeSpec := { name := "fnFraOk", fn := fun _ => fun
  | [d] => { results := [.lit (.bool true)], args := [d] }
  | _ => none }
def fnFraOkRow : OpenClaim := { program := "ytgdhlnfigcaepaa", sum := "5d397deb0efde6dd6f1a89ea69ea80b9ad9bbc7df6ce81fdc6ddfae02edbadcb", func := "loop.example/keyward/laws.FnFraOk", spec := "fnFraOk", recurses := true, apart := false }
def FnFraOkSaid : Prop := fnFraOkRow.holds Try.pinned (OpenSpec.ofChange fnFraOkSpec)

/-- ITS FALSE NEIGHBOUR: 'it returns false'. Refute it at one input. -/
def fnFraOkWrong : ChangeSpec := { name := "fnFraOk", fn := fun _ => fun
  | [d] => { results := [.lit (.bool false)], args := [d] }
  | _ => none }
def FnFraOkWrongFalsely : Prop := fnFraOkRow.holds Try.pinned (OpenSpec.ofChange fnFraOkWrong)

/-- 'laws.FnWinTake': WHATEVER THE INPUT: true; the input reads as it did. -/
def fnWinTakeSpec : ChangeSpec := { name := "fnWinTake", fn := fun _ => fun
  | [d] => { results := [.lit (.bool true)], args := [d] }
  | _ => none }
def fnWinTakeRow : OpenClaim := { program := "ytgdhlnfigcaepaa", sum := "5d397deb0efde6dd6f1a89ea69ea80b9ad9bbc7df6ce81fdc6ddfae02edbadcb", func := "loop.example/keyward/laws.FnWinTake", spec := "fnWinTake", recurses := true, apart := false }
def FnWinTakeSaid : Prop := fnWinTakeRow.holds Try.pinned (OpenSpec.ofChange fnWinTakeSpec)

/-- ITS FALSE NEIGHBOUR: 'it returns false'. Refute it at one input. -/
def fnWinTakeWrong : ChangeSpec := { name := "fnWinTake", fn := fun _ => fun
  | [d] => { results := [.lit (.bool false)], args := [d] }
  | _ => none }
def FnWinTakeWrongFalsely : Prop := fnWinTakeRow.holds Try.pinned (OpenSpec.ofChange fnWinTakeWrong)

/-- 'laws.FnWinOrder': WHATEVER THE INPUT: true; the input reads as it did. -/
def fnWinOrderSpec : ChangeSpec := { name := "fnWinOrder", fn := fun _ => fun
  | [d] => { results := [.lit (.bool true)], args := [d] }
  | _ => none }
def fnWinOrderRow : OpenClaim := { program := "ytgdhlnfigcaepaa", sum := "5d397deb0efde6dd6f1a89ea69ea80b9ad9bbc7df6ce81fdc6ddfae02edbadcb", func := "loop.example/keyward/laws.FnWinOrder", spec := "fnWinOrder", unfollowed := true, recurses := true, apart := false }
def FnWinOrderSaid : Prop := fnWinOrderRow.holds Try.pinned (OpenSpec.ofChange fnWinOrderSpec)

/-- ITS FALSE NEIGHBOUR: 'it returns false'. Refute it at one input. -/
def fnWinOrderWrong : ChangeSpec := { name := "fnWinOrder", fn := fun _ => fun
  | [d] => { results := [.lit (.bool false)], args := [d] }
  | _ => none }
def FnWinOrderWrongFalsely : Prop := fnWinOrderRow.holds Try.pinned (OpenSpec.ofChange fnWinOrderWrong)

/-- 'laws.FnWinOk': WHATEVER THE INPUT: true; the input reads as it did. -/
def fnWinOkSpec : ChangeSpec := { name := "fnWinOk", fn := fun _ => fun
  | [d] => { results := [.lit (.bool true)], args := [d] }
  | _ => none }
def fnWinOkRow : OpenClaim := { program := "ytgdhlnfigcaepaa", sum := "5d397deb0efde6dd6f1a89ea69ea80b9ad9bbc7df6ce81fdc6ddfae02edbadcb", func := "loop.example/keyward/laws.FnWinOk", spec := "fnWinOk", recurses := true, apart := false }
def FnWinOkSaid : Prop := fnWinOkRow.holds Try.pinned (OpenSpec.ofChange fnWinOkSpec)

/-- ITS FALSE NEIGHBOUR: 'it returns false'. Refute it at one input. -/
def fnWinOkWrong : ChangeSpec := { name := "fnWinOk", fn := fun _ => fun
  | [d] => { results := [.lit (.bool false)], args := [d] }
  | _ => none }
def FnWinOkWrongFalsely : Prop := fnWinOkRow.holds Try.pinned (OpenSpec.ofChange fnWinOkWrong)

/- THE SECOND FORM. 'bulk': how many values and letters a reading holds, each counted each time it is reached (what is shared counts as often as it is met; a slice's spare places count too). A statement '..UptoSaid' is the law's where the arguments, and the package variables that the reading takes, are together of bulk at most 1048576: NARROWER than '..Said'. Prove '..Said' where nothing that the law and all that it calls make is longer than what came in: it says more and counts as full. Else prove '..UptoSaid'. A law counts once. -/
mutual
def uptoBulk {H : Type} : DataW H → Nat
  | .lit (.string bytes) => bytes.length + 1
  | .lit _ => 1
  | .nil => 1
  | .ptr d => uptoBulk d + 1
  | .slice elems spare => uptoBulkAll elems + uptoBulkAll spare + 1
  | .agg parts => uptoBulkAll parts + 1
  | .iface _ d => uptoBulk d + 1
  | .map entries => uptoBulkEntries entries + 1
  | .held _ => 1
def uptoBulkAll {H : Type} : List (DataW H) → Nat
  | [] => 0
  | d :: r => uptoBulk d + uptoBulkAll r
def uptoBulkEntries {H : Type} : List (Lit × DataW H) → Nat
  | [] => 0
  | x :: r => uptoBulkEntry x + uptoBulkEntries r
def uptoBulkEntry {H : Type} : Lit × DataW H → Nat
  | (.string bytes, d) => bytes.length + uptoBulk d + 1
  | (_, d) => uptoBulk d + 1
 end
def uptoSmall : (H : Type) → List (DataW H) → Bool := fun _ ds => decide (uptoBulkAll ds ≤ 1048576)
def OpenSpec.upto (s : _root_.Go.ChangeSpec) : _root_.Go.OpenSpec := { _root_.Go.OpenSpec.ofChange s with cond := some uptoSmall }

/-- 'laws.FnExactFraText', WHERE WHAT IT READS IS OF BULK AT MOST 1048576: true; the input reads as it did. -/
def fnExactFraTextUptoRow : OpenClaim := { program := "ytgdhlnfigcaepaa", sum := "5d397deb0efde6dd6f1a89ea69ea80b9ad9bbc7df6ce81fdc6ddfae02edbadcb", func := "loop.example/keyward/laws.FnExactFraText", spec := "fnExactFraText", apart := false, narrowed := true }
def FnExactFraTextUptoSaid : Prop := fnExactFraTextUptoRow.holds Try.pinned (OpenSpec.upto fnExactFraTextSpec)

/-- 'laws.FnExactFraOk', WHERE WHAT IT READS IS OF BULK AT MOST 1048576: true; the input reads as it did. -/
def fnExactFraOkUptoRow : OpenClaim := { program := "ytgdhlnfigcaepaa", sum := "5d397deb0efde6dd6f1a89ea69ea80b9ad9bbc7df6ce81fdc6ddfae02edbadcb", func := "loop.example/keyward/laws.FnExactFraOk", spec := "fnExactFraOk", recurses := true, apart := false, narrowed := true }
def FnExactFraOkUptoSaid : Prop := fnExactFraOkUptoRow.holds Try.pinned (OpenSpec.upto fnExactFraOkSpec)

/-- 'laws.FnExactWinOk', WHERE WHAT IT READS IS OF BULK AT MOST 1048576: true; the input reads as it did. -/
def fnExactWinOkUptoRow : OpenClaim := { program := "ytgdhlnfigcaepaa", sum := "5d397deb0efde6dd6f1a89ea69ea80b9ad9bbc7df6ce81fdc6ddfae02edbadcb", func := "loop.example/keyward/laws.FnExactWinOk", spec := "fnExactWinOk", recurses := true, apart := false, narrowed := true }
def FnExactWinOkUptoSaid : Prop := fnExactWinOkUptoRow.holds Try.pinned (OpenSpec.upto fnExactWinOkSpec)

/-- 'laws.FnExactWinTake', WHERE WHAT IT READS IS OF BULK AT MOST 1048576: true; the input reads as it did. -/
def fnExactWinTakeUptoRow : OpenClaim := { program := "ytgdhlnfigcaepaa", sum := "5d397deb0efde6dd6f1a89ea69ea80b9ad9bbc7df6ce81fdc6ddfae02edbadcb", func := "loop.example/keyward/laws.FnExactWinTake", spec := "fnExactWinTake", recurses := true, apart := false, narrowed := true }
def FnExactWinTakeUptoSaid : Prop := fnExactWinTakeUptoRow.holds Try.pinned (OpenSpec.upto fnExactWinTakeSpec)

/-- 'laws.FnFraText', WHERE WHAT IT READS IS OF BULK AT MOST 1048576: true; the input reads as it did. -/
def fnFraTextUptoRow : OpenClaim := { program := "ytgdhlnfigcaepaa", sum := "5d397deb0efde6dd6f1a89ea69ea80b9ad9bbc7df6ce81fdc6ddfae02edbadcb", func := "loop.example/keyward/laws.FnFraText", spec := "fnFraText", recurses := true, apart := false, narrowed := true }
def FnFraTextUptoSaid : Prop := fnFraTextUptoRow.holds Try.pinned (OpenSpec.upto fnFraTextSpec)

/-- 'laws.FnFraOk', WHERE WHAT IT READS IS OF BULK AT MOST 1048576: true; the input reads as it did. -/
def fnFraOkUptoRow : OpenClaim := { program := "ytgdhlnfigcaepaa", sum := "5d397deb0efde6dd6f1a89ea69ea80b9ad9bbc7df6ce81fdc6ddfae02edbadcb", func := "loop.example/keyward/laws.FnFraOk", spec := "fnFraOk", recurses := true, apart := false, narrowed := true }
def FnFraOkUptoSaid : Prop := fnFraOkUptoRow.holds Try.pinned (OpenSpec.upto fnFraOkSpec)

/-- 'laws.FnWinTake', WHERE WHAT IT READS IS OF BULK AT MOST 1048576: true; the input reads as it did. -/
def fnWinTakeUptoRow : OpenClaim := { program := "ytgdhlnfigcaepaa", sum := "5d397deb0efde6dd6f1a89ea69ea80b9ad9bbc7df6ce81fdc6ddfae02edbadcb", func := "loop.example/keyward/laws.FnWinTake", spec := "fnWinTake", recurses := true, apart := false, narrowed := true }
def FnWinTakeUptoSaid : Prop := fnWinTakeUptoRow.holds Try.pinned (OpenSpec.upto fnWinTakeSpec)

/-- 'laws.FnWinOrder', WHERE WHAT IT READS IS OF BULK AT MOST 1048576: true; the input reads as it did. -/
def fnWinOrderUptoRow : OpenClaim := { program := "ytgdhlnfigcaepaa", sum := "5d397deb0efde6dd6f1a89ea69ea80b9ad9bbc7df6ce81fdc6ddfae02edbadcb", func := "loop.example/keyward/laws.FnWinOrder", spec := "fnWinOrder", unfollowed := true, recurses := true, apart := false, narrowed := true }
def FnWinOrderUptoSaid : Prop := fnWinOrderUptoRow.holds Try.pinned (OpenSpec.upto fnWinOrderSpec)

/-- 'laws.FnWinOk', WHERE WHAT IT READS IS OF BULK AT MOST 1048576: true; the input reads as it did. -/
def fnWinOkUptoRow : OpenClaim := { program := "ytgdhlnfigcaepaa", sum := "5d397deb0efde6dd6f1a89ea69ea80b9ad9bbc7df6ce81fdc6ddfae02edbadcb", func := "loop.example/keyward/laws.FnWinOk", spec := "fnWinOk", recurses := true, apart := false, narrowed := true }
def FnWinOkUptoSaid : Prop := fnWinOkUptoRow.holds Try.pinned (OpenSpec.upto fnWinOkSpec)

end Rows
end Go.Proofs.Ytgdhlnfigcaepaa
