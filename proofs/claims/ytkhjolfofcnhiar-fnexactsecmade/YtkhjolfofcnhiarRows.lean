/-
  No cell of these rows narrows 'for every input' (looked for: loops, veiled, ifaces, maps, wideKeys, modest, calm, conditions, laid).
  DERIVED. THE GIVEN ROWS OF THIS SEAT. 6 by the template 'for every input the law returns true; each argument reads behind the call as it read before'; 0 by the template 'total and deterministic' (their statements: YtkhjolfofcnhiarTotals.lean).
  GIVEN WITH THE SEED: the statements are not yours to turn. If you find one false, say at which input.
  Laid BY PROGRAM, IN A SANDBOX (cutbox-rows.mjs): the forced cells as the released guide's own fill.sh prints them over the translation 0f6d23e2db2dfe0d… (all of the seat's roots in one cut). By AI agents, Wed Nov 11 2026. No macro, syntax, notation, axiom, sorry.
-/
import Derived.Test.YtkhjolfofcnhiarChecked
import GoSem.Claim
import GoSem.ClaimJoined
import GoSem.ClaimMapViews
import Derived.JoinedTies
import Derived.KernelRfl
namespace Go.Proofs.Ytkhjolfofcnhiar
/- THE CELL 'sum', in the pinned program and in every row, IS THE sha256 OF THE DUMP (.gsa) THAT YtkhjolfofcnhiarProg.lean LOADS. Nothing in Lean hashes anything: it is a label: what it is worth is what the hold of that sum in a sandbox is worth. -/
noncomputable def Try.pinned : Pinned := { name := "ytkhjolfofcnhiar", sum := "0f6d23e2db2dfe0d3ee14fa45fba97344e71dafce6ad5bc63887e5674f8eef03", checked := Try.checked }
namespace Rows
def none {H : Type} : Left H := { results := [], args := [] }

/-- 'laws.FnExactMakSay': WHATEVER THE INPUT: true; the input reads as it did. -/
def fnExactMakSaySpec : ChangeSpec := { name := "fnExactMakSay", fn := fun _ => fun
  | [d1, d2] => { results := [.lit (.bool true)], args := [d1, d2] }
  | _ => none }
def fnExactMakSayRow : OpenClaim := { program := "ytkhjolfofcnhiar", sum := "0f6d23e2db2dfe0d3ee14fa45fba97344e71dafce6ad5bc63887e5674f8eef03", func := "loop.example/keyward/laws.FnExactMakSay", spec := "fnExactMakSay", unfollowed := true, recurses := true, apart := false }
def FnExactMakSaySaid : Prop := fnExactMakSayRow.holds Try.pinned (OpenSpec.ofChange fnExactMakSaySpec)

/-- ITS FALSE NEIGHBOUR: 'it returns false'. Refute it at one input. -/
def fnExactMakSayWrong : ChangeSpec := { name := "fnExactMakSay", fn := fun _ => fun
  | [d1, d2] => { results := [.lit (.bool false)], args := [d1, d2] }
  | _ => none }
def FnExactMakSayWrongFalsely : Prop := fnExactMakSayRow.holds Try.pinned (OpenSpec.ofChange fnExactMakSayWrong)

/-- 'laws.FnExactMakRoom': WHATEVER THE INPUT: true; the input reads as it did. -/
def fnExactMakRoomSpec : ChangeSpec := { name := "fnExactMakRoom", fn := fun _ => fun
  | [d1, d2] => { results := [.lit (.bool true)], args := [d1, d2] }
  | _ => none }
def fnExactMakRoomRow : OpenClaim := { program := "ytkhjolfofcnhiar", sum := "0f6d23e2db2dfe0d3ee14fa45fba97344e71dafce6ad5bc63887e5674f8eef03", func := "loop.example/keyward/laws.FnExactMakRoom", spec := "fnExactMakRoom", unfollowed := true, recurses := true, apart := false }
def FnExactMakRoomSaid : Prop := fnExactMakRoomRow.holds Try.pinned (OpenSpec.ofChange fnExactMakRoomSpec)

/-- ITS FALSE NEIGHBOUR: 'it returns false'. Refute it at one input. -/
def fnExactMakRoomWrong : ChangeSpec := { name := "fnExactMakRoom", fn := fun _ => fun
  | [d1, d2] => { results := [.lit (.bool false)], args := [d1, d2] }
  | _ => none }
def FnExactMakRoomWrongFalsely : Prop := fnExactMakRoomRow.holds Try.pinned (OpenSpec.ofChange fnExactMakRoomWrong)

/-- 'laws.FnExactSecMade': WHATEVER THE INPUT: true; the input reads as it did. -/
def fnExactSecMadeSpec : ChangeSpec := { name := "fnExactSecMade", fn := fun _ => fun
  | [d] => { results := [.lit (.bool true)], args := [d] }
  | _ => none }
def fnExactSecMadeRow : OpenClaim := { program := "ytkhjolfofcnhiar", sum := "0f6d23e2db2dfe0d3ee14fa45fba97344e71dafce6ad5bc63887e5674f8eef03", func := "loop.example/keyward/laws.FnExactSecMade", spec := "fnExactSecMade", recurses := true, apart := false }
def FnExactSecMadeSaid : Prop := fnExactSecMadeRow.holds Try.pinned (OpenSpec.ofChange fnExactSecMadeSpec)

/-- ITS FALSE NEIGHBOUR: 'it returns false'. Refute it at one input. -/
def fnExactSecMadeWrong : ChangeSpec := { name := "fnExactSecMade", fn := fun _ => fun
  | [d] => { results := [.lit (.bool false)], args := [d] }
  | _ => none }
def FnExactSecMadeWrongFalsely : Prop := fnExactSecMadeRow.holds Try.pinned (OpenSpec.ofChange fnExactSecMadeWrong)

/-- 'laws.FnExactKnwMake': WHATEVER THE INPUT: true; the input reads as it did. -/
def fnExactKnwMakeSpec : ChangeSpec := { name := "fnExactKnwMake", fn := fun _ => fun
  | [d1, d2] => { results := [.lit (.bool true)], args := [d1, d2] }
  | _ => none }
def fnExactKnwMakeRow : OpenClaim := { program := "ytkhjolfofcnhiar", sum := "0f6d23e2db2dfe0d3ee14fa45fba97344e71dafce6ad5bc63887e5674f8eef03", func := "loop.example/keyward/laws.FnExactKnwMake", spec := "fnExactKnwMake", recurses := true, apart := false }
def FnExactKnwMakeSaid : Prop := fnExactKnwMakeRow.holds Try.pinned (OpenSpec.ofChange fnExactKnwMakeSpec)

/-- ITS FALSE NEIGHBOUR: 'it returns false'. Refute it at one input. -/
def fnExactKnwMakeWrong : ChangeSpec := { name := "fnExactKnwMake", fn := fun _ => fun
  | [d1, d2] => { results := [.lit (.bool false)], args := [d1, d2] }
  | _ => none }
def FnExactKnwMakeWrongFalsely : Prop := fnExactKnwMakeRow.holds Try.pinned (OpenSpec.ofChange fnExactKnwMakeWrong)

/-- 'laws.FnExactKnwOpen': WHATEVER THE INPUT: true; the input reads as it did. -/
def fnExactKnwOpenSpec : ChangeSpec := { name := "fnExactKnwOpen", fn := fun _ => fun
  | [d1, d2] => { results := [.lit (.bool true)], args := [d1, d2] }
  | _ => none }
def fnExactKnwOpenRow : OpenClaim := { program := "ytkhjolfofcnhiar", sum := "0f6d23e2db2dfe0d3ee14fa45fba97344e71dafce6ad5bc63887e5674f8eef03", func := "loop.example/keyward/laws.FnExactKnwOpen", spec := "fnExactKnwOpen", recurses := true, apart := false }
def FnExactKnwOpenSaid : Prop := fnExactKnwOpenRow.holds Try.pinned (OpenSpec.ofChange fnExactKnwOpenSpec)

/-- ITS FALSE NEIGHBOUR: 'it returns false'. Refute it at one input. -/
def fnExactKnwOpenWrong : ChangeSpec := { name := "fnExactKnwOpen", fn := fun _ => fun
  | [d1, d2] => { results := [.lit (.bool false)], args := [d1, d2] }
  | _ => none }
def FnExactKnwOpenWrongFalsely : Prop := fnExactKnwOpenRow.holds Try.pinned (OpenSpec.ofChange fnExactKnwOpenWrong)

/-- 'laws.FnExactKnwHas': WHATEVER THE INPUT: true; the input reads as it did. -/
def fnExactKnwHasSpec : ChangeSpec := { name := "fnExactKnwHas", fn := fun _ => fun
  | [d1, d2, d3] => { results := [.lit (.bool true)], args := [d1, d2, d3] }
  | _ => none }
def fnExactKnwHasRow : OpenClaim := { program := "ytkhjolfofcnhiar", sum := "0f6d23e2db2dfe0d3ee14fa45fba97344e71dafce6ad5bc63887e5674f8eef03", func := "loop.example/keyward/laws.FnExactKnwHas", spec := "fnExactKnwHas", recurses := true, apart := false }
def FnExactKnwHasSaid : Prop := fnExactKnwHasRow.holds Try.pinned (OpenSpec.ofChange fnExactKnwHasSpec)

/-- ITS FALSE NEIGHBOUR: 'it returns false'. Refute it at one input. -/
def fnExactKnwHasWrong : ChangeSpec := { name := "fnExactKnwHas", fn := fun _ => fun
  | [d1, d2, d3] => { results := [.lit (.bool false)], args := [d1, d2, d3] }
  | _ => none }
def FnExactKnwHasWrongFalsely : Prop := fnExactKnwHasRow.holds Try.pinned (OpenSpec.ofChange fnExactKnwHasWrong)

/- THE SECOND FORM. 'bulk': how many values and letters a reading holds, each counted each time it is reached (what is shared counts as often as it is met; a slice's spare places count too). A statement '..UptoSaid' is the law's where the arguments, and the package variables that the reading takes, are together of bulk at most 1048576: NARROWER than '..Said'. Prove '..Said' where nothing that the law and all that it calls make is longer than what came in: it says more and counts as full. Else prove '..UptoSaid'. A law counts once. -/
mutual
def uptoBulk {H : Type} : DataW H → Nat
  | .lit (.string bytes) => bytes.length + 1
  | .lit _ => 1
  | .nil => 1
  | .ptr d => uptoBulk d + 1
  | .slice elems spare => uptoBulkAll elems + uptoBulkAll spare + 1
  | .agg parts => uptoBulkAll parts + 1
  | .iface _ d => uptoBulk d + 1
  | .map entries => uptoBulkEntries entries + 1
  | .held _ => 1
def uptoBulkAll {H : Type} : List (DataW H) → Nat
  | [] => 0
  | d :: r => uptoBulk d + uptoBulkAll r
def uptoBulkEntries {H : Type} : List (Lit × DataW H) → Nat
  | [] => 0
  | x :: r => uptoBulkEntry x + uptoBulkEntries r
def uptoBulkEntry {H : Type} : Lit × DataW H → Nat
  | (.string bytes, d) => bytes.length + uptoBulk d + 1
  | (_, d) => uptoBulk d + 1
 end
def uptoSmall : (H : Type) → List (DataW H) → Bool := fun _ ds => decide (uptoBulkAll ds ≤ 1048576)
def OpenSpec.upto (s : _root_.Go.ChangeSpec) : _root_.Go.OpenSpec := { _root_.Go.OpenSpec.ofChange s with cond := some uptoSmall }

/-- 'laws.FnExactMakSay', WHERE WHAT IT READS IS OF BULK AT MOST 1048576: true; the input reads as it did. -/
def fnExactMakSayUptoRow : OpenClaim := { program := "ytkhjolfofcnhiar", sum := "0f6d23e2db2dfe0d3ee14fa45fba97344e71dafce6ad5bc63887e5674f8eef03", func := "loop.example/keyward/laws.FnExactMakSay", spec := "fnExactMakSay", unfollowed := true, recurses := true, apart := false, narrowed := true }
def FnExactMakSayUptoSaid : Prop := fnExactMakSayUptoRow.holds Try.pinned (OpenSpec.upto fnExactMakSaySpec)

/-- 'laws.FnExactMakRoom', WHERE WHAT IT READS IS OF BULK AT MOST 1048576: true; the input reads as it did. -/
def fnExactMakRoomUptoRow : OpenClaim := { program := "ytkhjolfofcnhiar", sum := "0f6d23e2db2dfe0d3ee14fa45fba97344e71dafce6ad5bc63887e5674f8eef03", func := "loop.example/keyward/laws.FnExactMakRoom", spec := "fnExactMakRoom", unfollowed := true, recurses := true, apart := false, narrowed := true }
def FnExactMakRoomUptoSaid : Prop := fnExactMakRoomUptoRow.holds Try.pinned (OpenSpec.upto fnExactMakRoomSpec)

/-- 'laws.FnExactSecMade', WHERE WHAT IT READS IS OF BULK AT MOST 1048576: true; the input reads as it did. -/
def fnExactSecMadeUptoRow : OpenClaim := { program := "ytkhjolfofcnhiar", sum := "0f6d23e2db2dfe0d3ee14fa45fba97344e71dafce6ad5bc63887e5674f8eef03", func := "loop.example/keyward/laws.FnExactSecMade", spec := "fnExactSecMade", recurses := true, apart := false, narrowed := true }
def FnExactSecMadeUptoSaid : Prop := fnExactSecMadeUptoRow.holds Try.pinned (OpenSpec.upto fnExactSecMadeSpec)

/-- 'laws.FnExactKnwMake', WHERE WHAT IT READS IS OF BULK AT MOST 1048576: true; the input reads as it did. -/
def fnExactKnwMakeUptoRow : OpenClaim := { program := "ytkhjolfofcnhiar", sum := "0f6d23e2db2dfe0d3ee14fa45fba97344e71dafce6ad5bc63887e5674f8eef03", func := "loop.example/keyward/laws.FnExactKnwMake", spec := "fnExactKnwMake", recurses := true, apart := false, narrowed := true }
def FnExactKnwMakeUptoSaid : Prop := fnExactKnwMakeUptoRow.holds Try.pinned (OpenSpec.upto fnExactKnwMakeSpec)

/-- 'laws.FnExactKnwOpen', WHERE WHAT IT READS IS OF BULK AT MOST 1048576: true; the input reads as it did. -/
def fnExactKnwOpenUptoRow : OpenClaim := { program := "ytkhjolfofcnhiar", sum := "0f6d23e2db2dfe0d3ee14fa45fba97344e71dafce6ad5bc63887e5674f8eef03", func := "loop.example/keyward/laws.FnExactKnwOpen", spec := "fnExactKnwOpen", recurses := true, apart := false, narrowed := true }
def FnExactKnwOpenUptoSaid : Prop := fnExactKnwOpenUptoRow.holds Try.pinned (OpenSpec.upto fnExactKnwOpenSpec)

/-- 'laws.FnExactKnwHas', WHERE WHAT IT READS IS OF BULK AT MOST 1048576: true; the input reads as it did. -/
def fnExactKnwHasUptoRow : OpenClaim := { program := "ytkhjolfofcnhiar", sum := "0f6d23e2db2dfe0d3ee14fa45fba97344e71dafce6ad5bc63887e5674f8eef03", func := "loop.example/keyward/laws.FnExactKnwHas", spec := "fnExactKnwHas", recurses := true, apart := false, narrowed := true }
def FnExactKnwHasUptoSaid : Prop := fnExactKnwHasUptoRow.holds Try.pinned (OpenSpec.upto fnExactKnwHasSpec)

end Rows
end Go.Proofs.Ytkhjolfofcnhiar
