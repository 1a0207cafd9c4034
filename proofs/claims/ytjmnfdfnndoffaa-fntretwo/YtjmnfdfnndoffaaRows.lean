/-
  No cell of these rows narrows 'for every input' (looked for: loops, veiled, ifaces, maps, wideKeys, modest, calm, conditions, laid).
  DERIVED. THE GIVEN ROWS OF THIS SEAT. 3 by the template 'for every input the law returns true; each argument reads behind the call as it read before'; 0 by the template 'total and deterministic' (their statements: YtjmnfdfnndoffaaTotals.lean).
  GIVEN WITH THE SEED: the statements are not yours to turn. If you find one false, say at which input.
  Laid BY PROGRAM, IN A SANDBOX (cutbox-rows.mjs): the forced cells as the released guide's own fill.sh prints them over the translation 852c6ce470fa1d5a… (all of the seat's roots in one cut). By AI agents, Wed Nov 11 2026. No macro, syntax, notation, axiom, sorry.
-/
import Derived.Test.YtjmnfdfnndoffaaChecked
import GoSem.Claim
import GoSem.ClaimJoined
import GoSem.ClaimMapViews
import Derived.JoinedTies
import Derived.KernelRfl
namespace Go.Proofs.Ytjmnfdfnndoffaa
/- THE CELL 'sum', in the pinned program and in every row, IS THE sha256 OF THE DUMP (.gsa) THAT YtjmnfdfnndoffaaProg.lean LOADS. Nothing in Lean hashes anything: it is a label: what it is worth is what the hold of that sum in a sandbox is worth. -/
noncomputable def Try.pinned : Pinned := { name := "ytjmnfdfnndoffaa", sum := "852c6ce470fa1d5a6fba16aa1696b96de745b5761fca427a4e11a1429b3f156d", checked := Try.checked }
namespace Rows
def none {H : Type} : Left H := { results := [], args := [] }

/-- 'laws.FnTreCover': WHATEVER THE INPUT: true; the input reads as it did. -/
def fnTreCoverSpec : ChangeSpec := { name := "fnTreCover", fn := fun _ => fun
  | [d] => { results := [.lit (.bool true)], args := [d] }
  | _ => none }
def fnTreCoverRow : OpenClaim := { program := "ytjmnfdfnndoffaa", sum := "852c6ce470fa1d5a6fba16aa1696b96de745b5761fca427a4e11a1429b3f156d", func := "loop.example/keyward/laws.FnTreCover", spec := "fnTreCover", unfollowed := true, recurses := true, apart := false }
def FnTreCoverSaid : Prop := fnTreCoverRow.holds Try.pinned (OpenSpec.ofChange fnTreCoverSpec)

/-- ITS FALSE NEIGHBOUR: 'it returns false'. Refute it at one input. -/
def fnTreCoverWrong : ChangeSpec := { name := "fnTreCover", fn := fun _ => fun
  | [d] => { results := [.lit (.bool false)], args := [d] }
  | _ => none }
def FnTreCoverWrongFalsely : Prop := fnTreCoverRow.holds Try.pinned (OpenSpec.ofChange fnTreCoverWrong)

/-- 'laws.FnTreTwo': WHATEVER THE INPUT: true; the input reads as it did. -/
def fnTreTwoSpec : ChangeSpec := { name := "fnTreTwo", fn := fun _ => fun
  | [d1, d2] => { results := [.lit (.bool true)], args := [d1, d2] }
  | _ => none }
def fnTreTwoRow : OpenClaim := { program := "ytjmnfdfnndoffaa", sum := "852c6ce470fa1d5a6fba16aa1696b96de745b5761fca427a4e11a1429b3f156d", func := "loop.example/keyward/laws.FnTreTwo", spec := "fnTreTwo", unfollowed := true, recurses := true, apart := false }
def FnTreTwoSaid : Prop := fnTreTwoRow.holds Try.pinned (OpenSpec.ofChange fnTreTwoSpec)

/-- ITS FALSE NEIGHBOUR: 'it returns false'. Refute it at one input. -/
def fnTreTwoWrong : ChangeSpec := { name := "fnTreTwo", fn := fun _ => fun
  | [d1, d2] => { results := [.lit (.bool false)], args := [d1, d2] }
  | _ => none }
def FnTreTwoWrongFalsely : Prop := fnTreTwoRow.holds Try.pinned (OpenSpec.ofChange fnTreTwoWrong)

/-- 'laws.FnTreBack': WHATEVER THE INPUT: true; the input reads as it did. -/
def fnTreBackSpec : ChangeSpec := { name := "fnTreBack", fn := fun _ => fun
  | [d1, d2] => { results := [.lit (.bool true)], args := [d1, d2] }
  | _ => none }
def fnTreBackRow : OpenClaim := { program := "ytjmnfdfnndoffaa", sum := "852c6ce470fa1d5a6fba16aa1696b96de745b5761fca427a4e11a1429b3f156d", func := "loop.example/keyward/laws.FnTreBack", spec := "fnTreBack", unfollowed := true, recurses := true, apart := false }
def FnTreBackSaid : Prop := fnTreBackRow.holds Try.pinned (OpenSpec.ofChange fnTreBackSpec)

/-- ITS FALSE NEIGHBOUR: 'it returns false'. Refute it at one input. -/
def fnTreBackWrong : ChangeSpec := { name := "fnTreBack", fn := fun _ => fun
  | [d1, d2] => { results := [.lit (.bool false)], args := [d1, d2] }
  | _ => none }
def FnTreBackWrongFalsely : Prop := fnTreBackRow.holds Try.pinned (OpenSpec.ofChange fnTreBackWrong)

/- THE SECOND FORM. 'bulk': how many values and letters a reading holds, each counted each time it is reached (what is shared counts as often as it is met; a slice's spare places count too). A statement '..UptoSaid' is the law's where the arguments, and the package variables that the reading takes, are together of bulk at most 1048576: NARROWER than '..Said'. Prove '..Said' where nothing that the law and all that it calls make is longer than what came in: it says more and counts as full. Else prove '..UptoSaid'. A law counts once. -/
mutual
def uptoBulk {H : Type} : DataW H → Nat
  | .lit (.string bytes) => bytes.length + 1
  | .lit _ => 1
  | .nil => 1
  | .ptr d => uptoBulk d + 1
  | .slice elems spare => uptoBulkAll elems + uptoBulkAll spare + 1
  | .agg parts => uptoBulkAll parts + 1
  | .iface _ d => uptoBulk d + 1
  | .map entries => uptoBulkEntries entries + 1
  | .held _ => 1
def uptoBulkAll {H : Type} : List (DataW H) → Nat
  | [] => 0
  | d :: r => uptoBulk d + uptoBulkAll r
def uptoBulkEntries {H : Type} : List (Lit × DataW H) → Nat
  | [] => 0
  | x :: r => uptoBulkEntry x + uptoBulkEntries r
def uptoBulkEntry {H : Type} : Lit × DataW H → Nat
  | (.string bytes, d) => bytes.length + uptoBulk d + 1
  | (_, d) => uptoBulk d + 1
 end
def uptoSmall : (H : Type) → List (DataW H) → Bool := fun _ ds => decide (uptoBulkAll ds ≤ 1048576)
def OpenSpec.upto (s : _root_.Go.ChangeSpec) : _root_.Go.OpenSpec := { _root_.Go.OpenSpec.ofChange s with cond := some uptoSmall }

/-- 'laws.FnTreCover', WHERE WHAT IT READS IS OF BULK AT MOST 1048576: true; the input reads as it did. -/
def fnTreCoverUptoRow : OpenClaim := { program := "ytjmnfdfnndoffaa", sum := "852c6ce470fa1d5a6fba16aa1696b96de745b5761fca427a4e11a1429b3f156d", func := "loop.example/keyward/laws.FnTreCover", spec := "fnTreCover", unfollowed := true, recurses := true, apart := false, narrowed := true }
def FnTreCoverUptoSaid : Prop := fnTreCoverUptoRow.holds Try.pinned (OpenSpec.upto fnTreCoverSpec)

/-- 'laws.FnTreTwo', WHERE WHAT IT READS IS OF BULK AT MOST 1048576: true; the input reads as it did. -/
def fnTreTwoUptoRow : OpenClaim := { program := "ytjmnfdfnndoffaa", sum := "852c6ce470fa1d5a6fba16aa1696b96de745b5761fca427a4e11a1429b3f156d", func := "loop.example/keyward/laws.FnTreTwo", spec := "fnTreTwo", unfollowed := true, recurses := true, apart := false, narrowed := true }
def FnTreTwoUptoSaid : Prop := fnTreTwoUptoRow.holds Try.pinned (OpenSpec.upto fnTreTwoSpec)

/-- 'laws.FnTreBack', WHERE WHAT IT READS IS OF BULK AT MOST 1048576: true; the input reads as it did. -/
def fnTreBackUptoRow : OpenClaim := { program := "ytjmnfdfnndoffaa", sum := "852c6ce470fa1d5a6fba16aa1696b96de745b5761fca427a4e11a1429b3f156d", func := "loop.example/keyward/laws.FnTreBack", spec := "fnTreBack", unfollowed := true, recurses := true, apart := false, narrowed := true }
def FnTreBackUptoSaid : Prop := fnTreBackUptoRow.holds Try.pinned (OpenSpec.upto fnTreBackSpec)

end Rows
end Go.Proofs.Ytjmnfdfnndoffaa
