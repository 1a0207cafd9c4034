/-
  No cell of these rows narrows 'for every input' (looked for: loops, veiled, ifaces, maps, wideKeys, modest, calm, conditions, laid).
  DERIVED. THE GIVEN ROWS OF THIS SEAT. 5 by the template 'for every input the law returns true; each argument reads behind the call as it read before'; 0 by the template 'total and deterministic' (their statements: YtkhjolfofcnhiaaTotals.lean).
  GIVEN WITH THE SEED: the statements are not yours to turn. If you find one false, say at which input.
  Laid BY PROGRAM, IN A SANDBOX (cutbox-rows.mjs): the forced cells as the released guide's own fill.sh prints them over the translation 3430f107e1fa74eb… (all of the seat's roots in one cut). By AI agents, Wed Nov 11 2026. No macro, syntax, notation, axiom, sorry.
-/
import Derived.Test.YtkhjolfofcnhiaaChecked
import GoSem.Claim
import GoSem.ClaimJoined
import GoSem.ClaimMapViews
import Derived.JoinedTies
import Derived.KernelRfl
namespace Go.Proofs.Ytkhjolfofcnhiaa
/- THE CELL 'sum', in the pinned program and in every row, IS THE sha256 OF THE DUMP (.gsa) THAT YtkhjolfofcnhiaaProg.lean LOADS. Nothing in Lean hashes anything: it is a label: what it is worth is what the hold of that sum in a sandbox is worth. -/
noncomputable def Try.pinned : Pinned := { name := "ytkhjolfofcnhiaa", sum := "3430f107e1fa74eb37ab36291b34f339ceff49bc2062f0bc6c17afcaec6d5e24", checked := Try.checked }
namespace Rows
def none {H : Type} : Left H := { results := [], args := [] }

/-- 'laws.FnMakNew': WHATEVER THE INPUT: true; the input reads as it did. -/
def fnMakNewSpec : ChangeSpec := { name := "fnMakNew", fn := fun _ => fun
  | [d1, d2] => { results := [.lit (.bool true)], args := [d1, d2] }
  | _ => none }
def fnMakNewRow : OpenClaim := { program := "ytkhjolfofcnhiaa", sum := "3430f107e1fa74eb37ab36291b34f339ceff49bc2062f0bc6c17afcaec6d5e24", func := "loop.example/keyward/laws.FnMakNew", spec := "fnMakNew", unfollowed := true, recurses := true, apart := false }
def FnMakNewSaid : Prop := fnMakNewRow.holds Try.pinned (OpenSpec.ofChange fnMakNewSpec)

/-- ITS FALSE NEIGHBOUR: 'it returns false'. Refute it at one input. -/
def fnMakNewWrong : ChangeSpec := { name := "fnMakNew", fn := fun _ => fun
  | [d1, d2] => { results := [.lit (.bool false)], args := [d1, d2] }
  | _ => none }
def FnMakNewWrongFalsely : Prop := fnMakNewRow.holds Try.pinned (OpenSpec.ofChange fnMakNewWrong)

/-- 'laws.FnSecMade': WHATEVER THE INPUT: true; the input reads as it did. -/
def fnSecMadeSpec : ChangeSpec := { name := "fnSecMade", fn := fun _ => fun
  | [d] => { results := [.lit (.bool true)], args := [d] }
  | _ => none }
def fnSecMadeRow : OpenClaim := { program := "ytkhjolfofcnhiaa", sum := "3430f107e1fa74eb37ab36291b34f339ceff49bc2062f0bc6c17afcaec6d5e24", func := "loop.example/keyward/laws.FnSecMade", spec := "fnSecMade", unfollowed := true, recurses := true, apart := false }
def FnSecMadeSaid : Prop := fnSecMadeRow.holds Try.pinned (OpenSpec.ofChange fnSecMadeSpec)

/-- ITS FALSE NEIGHBOUR: 'it returns false'. Refute it at one input. -/
def fnSecMadeWrong : ChangeSpec := { name := "fnSecMade", fn := fun _ => fun
  | [d] => { results := [.lit (.bool false)], args := [d] }
  | _ => none }
def FnSecMadeWrongFalsely : Prop := fnSecMadeRow.holds Try.pinned (OpenSpec.ofChange fnSecMadeWrong)

/-- 'laws.FnMakNext': WHATEVER THE INPUT: true; the input reads as it did. -/
def fnMakNextSpec : ChangeSpec := { name := "fnMakNext", fn := fun _ => fun
  | [d1, d2] => { results := [.lit (.bool true)], args := [d1, d2] }
  | _ => none }
def fnMakNextRow : OpenClaim := { program := "ytkhjolfofcnhiaa", sum := "3430f107e1fa74eb37ab36291b34f339ceff49bc2062f0bc6c17afcaec6d5e24", func := "loop.example/keyward/laws.FnMakNext", spec := "fnMakNext", unfollowed := true, recurses := true, apart := false }
def FnMakNextSaid : Prop := fnMakNextRow.holds Try.pinned (OpenSpec.ofChange fnMakNextSpec)

/-- ITS FALSE NEIGHBOUR: 'it returns false'. Refute it at one input. -/
def fnMakNextWrong : ChangeSpec := { name := "fnMakNext", fn := fun _ => fun
  | [d1, d2] => { results := [.lit (.bool false)], args := [d1, d2] }
  | _ => none }
def FnMakNextWrongFalsely : Prop := fnMakNextRow.holds Try.pinned (OpenSpec.ofChange fnMakNextWrong)

/-- 'laws.FnMakEpoch': WHATEVER THE INPUT: true; the input reads as it did. -/
def fnMakEpochSpec : ChangeSpec := { name := "fnMakEpoch", fn := fun _ => fun
  | [d] => { results := [.lit (.bool true)], args := [d] }
  | _ => none }
def fnMakEpochRow : OpenClaim := { program := "ytkhjolfofcnhiaa", sum := "3430f107e1fa74eb37ab36291b34f339ceff49bc2062f0bc6c17afcaec6d5e24", func := "loop.example/keyward/laws.FnMakEpoch", spec := "fnMakEpoch", unfollowed := true, recurses := true, apart := false }
def FnMakEpochSaid : Prop := fnMakEpochRow.holds Try.pinned (OpenSpec.ofChange fnMakEpochSpec)

/-- ITS FALSE NEIGHBOUR: 'it returns false'. Refute it at one input. -/
def fnMakEpochWrong : ChangeSpec := { name := "fnMakEpoch", fn := fun _ => fun
  | [d] => { results := [.lit (.bool false)], args := [d] }
  | _ => none }
def FnMakEpochWrongFalsely : Prop := fnMakEpochRow.holds Try.pinned (OpenSpec.ofChange fnMakEpochWrong)

/-- 'laws.FnMakSay': WHATEVER THE INPUT: true; the input reads as it did. -/
def fnMakSaySpec : ChangeSpec := { name := "fnMakSay", fn := fun _ => fun
  | [d1, d2] => { results := [.lit (.bool true)], args := [d1, d2] }
  | _ => none }
def fnMakSayRow : OpenClaim := { program := "ytkhjolfofcnhiaa", sum := "3430f107e1fa74eb37ab36291b34f339ceff49bc2062f0bc6c17afcaec6d5e24", func := "loop.example/keyward/laws.FnMakSay", spec := "fnMakSay", unfollowed := true, recurses := true, apart := false }
def FnMakSaySaid : Prop := fnMakSayRow.holds Try.pinned (OpenSpec.ofChange fnMakSaySpec)

/-- ITS FALSE NEIGHBOUR: 'it returns false'. Refute it at one input. -/
def fnMakSayWrong : ChangeSpec := { name := "fnMakSay", fn := fun _ => fun
  | [d1, d2] => { results := [.lit (.bool false)], args := [d1, d2] }
  | _ => none }
def FnMakSayWrongFalsely : Prop := fnMakSayRow.holds Try.pinned (OpenSpec.ofChange fnMakSayWrong)

/- THE SECOND FORM. 'bulk': how many values and letters a reading holds, each counted each time it is reached (what is shared counts as often as it is met; a slice's spare places count too). A statement '..UptoSaid' is the law's where the arguments, and the package variables that the reading takes, are together of bulk at most 1048576: NARROWER than '..Said'. Prove '..Said' where nothing that the law and all that it calls make is longer than what came in: it says more and counts as full. Else prove '..UptoSaid'. A law counts once. -/
mutual
def uptoBulk {H : Type} : DataW H → Nat
  | .lit (.string bytes) => bytes.length + 1
  | .lit _ => 1
  | .nil => 1
  | .ptr d => uptoBulk d + 1
  | .slice elems spare => uptoBulkAll elems + uptoBulkAll spare + 1
  | .agg parts => uptoBulkAll parts + 1
  | .iface _ d => uptoBulk d + 1
  | .map entries => uptoBulkEntries entries + 1
  | .held _ => 1
def uptoBulkAll {H : Type} : List (DataW H) → Nat
  | [] => 0
  | d :: r => uptoBulk d + uptoBulkAll r
def uptoBulkEntries {H : Type} : List (Lit × DataW H) → Nat
  | [] => 0
  | x :: r => uptoBulkEntry x + uptoBulkEntries r
def uptoBulkEntry {H : Type} : Lit × DataW H → Nat
  | (.string bytes, d) => bytes.length + uptoBulk d + 1
  | (_, d) => uptoBulk d + 1
 end
def uptoSmall : (H : Type) → List (DataW H) → Bool := fun _ ds => decide (uptoBulkAll ds ≤ 1048576)
def OpenSpec.upto (s : _root_.Go.ChangeSpec) : _root_.Go.OpenSpec := { _root_.Go.OpenSpec.ofChange s with cond := some uptoSmall }

/-- 'laws.FnMakNew', WHERE WHAT IT READS IS OF BULK AT MOST 1048576: true; the input reads as it did. -/
def fnMakNewUptoRow : OpenClaim := { program := "ytkhjolfofcnhiaa", sum := "3430f107e1fa74eb37ab36291b34f339ceff49bc2062f0bc6c17afcaec6d5e24", func := "loop.example/keyward/laws.FnMakNew", spec := "fnMakNew", unfollowed := true, recurses := true, apart := false, narrowed := true }
def FnMakNewUptoSaid : Prop := fnMakNewUptoRow.holds Try.pinned (OpenSpec.upto fnMakNewSpec)

/-- 'laws.FnSecMade', WHERE WHAT IT READS IS OF BULK AT MOST 1048576: true; the input reads as it did. -/
def fnSecMadeUptoRow : OpenClaim := { program := "ytkhjolfofcnhiaa", sum := "3430f107e1fa74eb37ab36291b34f339ceff49bc2062f0bc6c17afcaec6d5e24", func := "loop.example/keyward/laws.FnSecMade", spec := "fnSecMade", unfollowed := true, recurses := true, apart := false, narrowed := true }
def FnSecMadeUptoSaid : Prop := fnSecMadeUptoRow.holds Try.pinned (OpenSpec.upto fnSecMadeSpec)

/-- 'laws.FnMakNext', WHERE WHAT IT READS IS OF BULK AT MOST 1048576: true; the input reads as it did. -/
def fnMakNextUptoRow : OpenClaim := { program := "ytkhjolfofcnhiaa", sum := "3430f107e1fa74eb37ab36291b34f339ceff49bc2062f0bc6c17afcaec6d5e24", func := "loop.example/keyward/laws.FnMakNext", spec := "fnMakNext", unfollowed := true, recurses := true, apart := false, narrowed := true }
def FnMakNextUptoSaid : Prop := fnMakNextUptoRow.holds Try.pinned (OpenSpec.upto fnMakNextSpec)

/-- 'laws.FnMakEpoch', WHERE WHAT IT READS IS OF BULK AT MOST 1048576: true; the input reads as it did. -/
def fnMakEpochUptoRow : OpenClaim := { program := "ytkhjolfofcnhiaa", sum := "3430f107e1fa74eb37ab36291b34f339ceff49bc2062f0bc6c17afcaec6d5e24", func := "loop.example/keyward/laws.FnMakEpoch", spec := "fnMakEpoch", unfollowed := true, recurses := true, apart := false, narrowed := true }
def FnMakEpochUptoSaid : Prop := fnMakEpochUptoRow.holds Try.pinned (OpenSpec.upto fnMakEpochSpec)

/-- 'laws.FnMakSay', WHERE WHAT IT READS IS OF BULK AT MOST 1048576: true; the input reads as it did. -/
def fnMakSayUptoRow : OpenClaim := { program := "ytkhjolfofcnhiaa", sum := "3430f107e1fa74eb37ab36291b34f339ceff49bc2062f0bc6c17afcaec6d5e24", func := "loop.example/keyward/laws.FnMakSay", spec := "fnMakSay", unfollowed := true, recurses := true, apart := false, narrowed := true }
def FnMakSayUptoSaid : Prop := fnMakSayUptoRow.holds Try.pinned (OpenSpec.upto fnMakSaySpec)

end Rows
end Go.Proofs.Ytkhjolfofcnhiaa
