/-
  The program's TreLeaf.
-/
import Derived.Test.YtenjkhabcpfnaaaPlc
namespace Go.Proofs.Ytenjkhabcpfnaaa
open Go.RowKit

set_option maxHeartbeats 400000 in
theorem iTreLeaf_any (who : Int) (w : World) : Calls Try.prog 24 #[.int .i64 who] w fun e w' => e = .returned (.int .i64 (leafOf who)) ∧ w' = w := by
  go_enter Try.func24, Try.ntmps24
  go_wp2_with fail
  refine (placeOf_any _ _).mono ?_
  rintro e w1 ⟨rfl, rfl⟩
  go_wp2_with fail
  go_ret
  exact ⟨rfl, rfl⟩
end Go.Proofs.Ytenjkhabcpfnaaa
