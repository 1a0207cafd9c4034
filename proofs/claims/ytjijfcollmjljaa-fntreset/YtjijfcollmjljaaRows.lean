/-
  No cell of these rows narrows 'for every input' (looked for: loops, veiled, ifaces, maps, wideKeys, modest, calm, conditions, laid).
  DERIVED. THE GIVEN ROWS OF THIS SEAT. 4 by the template 'for every input the law returns true; each argument reads behind the call as it read before'; 0 by the template 'total and deterministic' (their statements: YtjijfcollmjljaaTotals.lean).
  GIVEN WITH THE SEED: the statements are not yours to turn. If you find one false, say at which input.
  Laid BY PROGRAM, IN A SANDBOX (cutbox-rows.mjs): the forced cells as the released guide's own fill.sh prints them over the translation 2e7ae3a24c18a0ff… (all of the seat's roots in one cut). By AI agents, Wed Nov 11 2026. No macro, syntax, notation, axiom, sorry.
-/
import Derived.Test.YtjijfcollmjljaaChecked
import GoSem.Claim
import GoSem.ClaimJoined
import GoSem.ClaimMapViews
import Derived.JoinedTies
import Derived.KernelRfl
namespace Go.Proofs.Ytjijfcollmjljaa
/- THE CELL 'sum', in the pinned program and in every row, IS THE sha256 OF THE DUMP (.gsa) THAT YtjijfcollmjljaaProg.lean LOADS. Nothing in Lean hashes anything: it is a label: what it is worth is what the hold of that sum in a sandbox is worth. -/
noncomputable def Try.pinned : Pinned := { name := "ytjijfcollmjljaa", sum := "2e7ae3a24c18a0ff90f9a1dd9308bfe4183991bd6be8a8faaaa460b994c63cc3", checked := Try.checked }
namespace Rows
def none {H : Type} : Left H := { results := [], args := [] }

/-- 'laws.FnTreSet': WHATEVER THE INPUT: true; the input reads as it did. -/
def fnTreSetSpec : ChangeSpec := { name := "fnTreSet", fn := fun _ => fun
  | [d1, d2] => { results := [.lit (.bool true)], args := [d1, d2] }
  | _ => none }
def fnTreSetRow : OpenClaim := { program := "ytjijfcollmjljaa", sum := "2e7ae3a24c18a0ff90f9a1dd9308bfe4183991bd6be8a8faaaa460b994c63cc3", func := "loop.example/keyward/laws.FnTreSet", spec := "fnTreSet", unfollowed := true, recurses := true, apart := false }
def FnTreSetSaid : Prop := fnTreSetRow.holds Try.pinned (OpenSpec.ofChange fnTreSetSpec)

/-- ITS FALSE NEIGHBOUR: 'it returns false'. Refute it at one input. -/
def fnTreSetWrong : ChangeSpec := { name := "fnTreSet", fn := fun _ => fun
  | [d1, d2] => { results := [.lit (.bool false)], args := [d1, d2] }
  | _ => none }
def FnTreSetWrongFalsely : Prop := fnTreSetRow.holds Try.pinned (OpenSpec.ofChange fnTreSetWrong)

/-- 'laws.FnTreIn': WHATEVER THE INPUT: true; the input reads as it did. -/
def fnTreInSpec : ChangeSpec := { name := "fnTreIn", fn := fun _ => fun
  | [d] => { results := [.lit (.bool true)], args := [d] }
  | _ => none }
def fnTreInRow : OpenClaim := { program := "ytjijfcollmjljaa", sum := "2e7ae3a24c18a0ff90f9a1dd9308bfe4183991bd6be8a8faaaa460b994c63cc3", func := "loop.example/keyward/laws.FnTreIn", spec := "fnTreIn", recurses := true, apart := false }
def FnTreInSaid : Prop := fnTreInRow.holds Try.pinned (OpenSpec.ofChange fnTreInSpec)

/-- ITS FALSE NEIGHBOUR: 'it returns false'. Refute it at one input. -/
def fnTreInWrong : ChangeSpec := { name := "fnTreIn", fn := fun _ => fun
  | [d] => { results := [.lit (.bool false)], args := [d] }
  | _ => none }
def FnTreInWrongFalsely : Prop := fnTreInRow.holds Try.pinned (OpenSpec.ofChange fnTreInWrong)

/-- 'laws.FnTreFull': WHATEVER THE INPUT: true; the input reads as it did. -/
def fnTreFullSpec : ChangeSpec := { name := "fnTreFull", fn := fun _ => fun
  | [d] => { results := [.lit (.bool true)], args := [d] }
  | _ => none }
def fnTreFullRow : OpenClaim := { program := "ytjijfcollmjljaa", sum := "2e7ae3a24c18a0ff90f9a1dd9308bfe4183991bd6be8a8faaaa460b994c63cc3", func := "loop.example/keyward/laws.FnTreFull", spec := "fnTreFull", unfollowed := true, recurses := true, apart := false }
def FnTreFullSaid : Prop := fnTreFullRow.holds Try.pinned (OpenSpec.ofChange fnTreFullSpec)

/-- ITS FALSE NEIGHBOUR: 'it returns false'. Refute it at one input. -/
def fnTreFullWrong : ChangeSpec := { name := "fnTreFull", fn := fun _ => fun
  | [d] => { results := [.lit (.bool false)], args := [d] }
  | _ => none }
def FnTreFullWrongFalsely : Prop := fnTreFullRow.holds Try.pinned (OpenSpec.ofChange fnTreFullWrong)

/-- 'laws.FnTreOk': WHATEVER THE INPUT: true; the input reads as it did. -/
def fnTreOkSpec : ChangeSpec := { name := "fnTreOk", fn := fun _ => fun
  | [d] => { results := [.lit (.bool true)], args := [d] }
  | _ => none }
def fnTreOkRow : OpenClaim := { program := "ytjijfcollmjljaa", sum := "2e7ae3a24c18a0ff90f9a1dd9308bfe4183991bd6be8a8faaaa460b994c63cc3", func := "loop.example/keyward/laws.FnTreOk", spec := "fnTreOk", recurses := true, apart := false }
def FnTreOkSaid : Prop := fnTreOkRow.holds Try.pinned (OpenSpec.ofChange fnTreOkSpec)

/-- ITS FALSE NEIGHBOUR: 'it returns false'. Refute it at one input. -/
def fnTreOkWrong : ChangeSpec := { name := "fnTreOk", fn := fun _ => fun
  | [d] => { results := [.lit (.bool false)], args := [d] }
  | _ => none }
def FnTreOkWrongFalsely : Prop := fnTreOkRow.holds Try.pinned (OpenSpec.ofChange fnTreOkWrong)

/- THE SECOND FORM. 'bulk': how many values and letters a reading holds, each counted each time it is reached (what is shared counts as often as it is met; a slice's spare places count too). A statement '..UptoSaid' is the law's where the arguments, and the package variables that the reading takes, are together of bulk at most 1048576: NARROWER than '..Said'. Prove '..Said' where nothing that the law and all that it calls make is longer than what came in: it says more and counts as full. Else prove '..UptoSaid'. A law counts once. -/
mutual
def uptoBulk {H : Type} : DataW H → Nat
  | .lit (.string bytes) => bytes.length + 1
  | .lit _ => 1
  | .nil => 1
  | .ptr d => uptoBulk d + 1
  | .slice elems spare => uptoBulkAll elems + uptoBulkAll spare + 1
  | .agg parts => uptoBulkAll parts + 1
  | .iface _ d => uptoBulk d + 1
  | .map entries => uptoBulkEntries entries + 1
  | .held _ => 1
def uptoBulkAll {H : Type} : List (DataW H) → Nat
  | [] => 0
  | d :: r => uptoBulk d + uptoBulkAll r
def uptoBulkEntries {H : Type} : List (Lit × DataW H) → Nat
  | [] => 0
  | x :: r => uptoBulkEntry x + uptoBulkEntries r
def uptoBulkEntry {H : Type} : Lit × DataW H → Nat
  | (.string bytes, d) => bytes.length + uptoBulk d + 1
  | (_, d) => uptoBulk d + 1
 end
def uptoSmall : (H : Type) → List (DataW H) → Bool := fun _ ds => decide (uptoBulkAll ds ≤ 1048576)
def OpenSpec.upto (s : _root_.Go.ChangeSpec) : _root_.Go.OpenSpec := { _root_.Go.OpenSpec.ofChange s with cond := some uptoSmall }

/-- 'laws.FnTreSet', WHERE WHAT IT READS IS OF BULK AT MOST 1048576: true; the input reads as it did. -/
def fnTreSetUptoRow : OpenClaim := { program := "ytjijfcollmjljaa", sum := "2e7ae3a24c18a0ff90f9a1dd9308bfe4183991bd6be8a8faaaa460b994c63cc3", func := "loop.example/keyward/laws.FnTreSet", spec := "fnTreSet", unfollowed := true, recurses := true, apart := false, narrowed := true }
def FnTreSetUptoSaid : Prop := fnTreSetUptoRow.holds Try.pinned (OpenSpec.upto fnTreSetSpec)

/-- 'laws.FnTreIn', WHERE WHAT IT READS IS OF BULK AT MOST 1048576: true; the input reads as it did. -/
def fnTreInUptoRow : OpenClaim := { program := "ytjijfcollmjljaa", sum := "2e7ae3a24c18a0ff90f9a1dd9308bfe4183991bd6be8a8faaaa460b994c63cc3", func := "loop.example/keyward/laws.FnTreIn", spec := "fnTreIn", recurses := true, apart := false, narrowed := true }
def FnTreInUptoSaid : Prop := fnTreInUptoRow.holds Try.pinned (OpenSpec.upto fnTreInSpec)

/-- 'laws.FnTreFull', WHERE WHAT IT READS IS OF BULK AT MOST 1048576: true; the input reads as it did. -/
def fnTreFullUptoRow : OpenClaim := { program := "ytjijfcollmjljaa", sum := "2e7ae3a24c18a0ff90f9a1dd9308bfe4183991bd6be8a8faaaa460b994c63cc3", func := "loop.example/keyward/laws.FnTreFull", spec := "fnTreFull", unfollowed := true, recurses := true, apart := false, narrowed := true }
def FnTreFullUptoSaid : Prop := fnTreFullUptoRow.holds Try.pinned (OpenSpec.upto fnTreFullSpec)

/-- 'laws.FnTreOk', WHERE WHAT IT READS IS OF BULK AT MOST 1048576: true; the input reads as it did. -/
def fnTreOkUptoRow : OpenClaim := { program := "ytjijfcollmjljaa", sum := "2e7ae3a24c18a0ff90f9a1dd9308bfe4183991bd6be8a8faaaa460b994c63cc3", func := "loop.example/keyward/laws.FnTreOk", spec := "fnTreOk", recurses := true, apart := false, narrowed := true }
def FnTreOkUptoSaid : Prop := fnTreOkUptoRow.holds Try.pinned (OpenSpec.upto fnTreOkSpec)

end Rows
end Go.Proofs.Ytjijfcollmjljaa
