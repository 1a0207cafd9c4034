/-
  Drawn ones: DrawTreLeaf.
-/
import Derived.Test.YtenjkhabcpfnaaaDrOpen
namespace Go.Proofs.Ytenjkhabcpfnaaa
open Go.RowKit

set_option maxHeartbeats 400000 in
theorem DrawTreLeaf_any (a : Option Addr) (len cap : Nat) (zs : List Int) (w : World) (h : IsRow .u8 w a len cap zs) :
    Calls Try.prog 23 #[.slice a len cap] w fun e w' => ∃ n : Int, e = .returned (.int .i64 n) ∧ -1 ≤ n ∧ n ≤ 8 ∧ Below w.heap.size w w' := by
  have hR := hide h
  clear h
  go_enter Try.func23, Try.ntmps23
  go_wp2_with fail
  refine (l20Open_any a len cap zs _ (unhide hR)).mono ?_
  rintro e w1 ⟨C, rfl, d1, hb1⟩
  have D1 := hide d1
  clear d1
  go_wp2_with fail
  refine (pick_any w.heap.size C 0 10 _ rfl _ (unhide D1) (by omega) (by omega) (by omega)).mono ?_
  rintro e w2 ⟨v, rfl, hv, d2, x2⟩
  have D2 := hide d2
  clear d2
  have i1 : IntKind.i64.wrap ((v : Int) - 1) = (v : Int) - 1 := by simp [IntKind.wrap, IntKind.bits, IntKind.signed]; omega
  go_wp2_with fail
  go_ret
  exact ⟨_, rfl, by omega, by omega, hb1.trans (x2.below (Nat.le_refl _) hb1.size)⟩
#print axioms DrawTreLeaf_any
end Go.Proofs.Ytenjkhabcpfnaaa
