/-
  Both places under one.
-/
import Derived.Test.YticmbajfdpchnaaPlc
namespace Go.Proofs.Yticmbajfdpchnaa
open Go.RowKit

theorem wrap_small (n : Int) (h0 : -1000 ≤ n) (h : n ≤ 1000) : IntKind.i64.wrap n = n := by simp [IntKind.wrap, IntKind.bits, IntKind.signed]; omega

set_option maxHeartbeats 400000 in
theorem under_any (p : Int) (h0 : -10 ≤ p) (h1 : p ≤ 20) (w : World) : Calls Try.prog 61 #[.int .i64 p] w fun e w' => e = .returned (.agg #[.int .i64 (2 * p + 1), .int .i64 (2 * p + 2)]) ∧ Below w.heap.size w w' := by
  have i1 := wrap_small (2 * p) (by omega) (by omega)
  have i2 := wrap_small (2 * p + 1) (by omega) (by omega)
  have i3 := wrap_small (2 * p + 2) (by omega) (by omega)
  clear h0 h1
  go_enter Try.func61, Try.ntmps61
  go_wp2_with fail
  refine bodyPost_ret (v := .agg #[.int .i64 (2 * p + 1), .int .i64 (2 * p + 2)]) (by simp [results, Try.results61, go_sem]) rfl ⟨rfl, ?_⟩
  exact (Below.refl _ _).alloc (Nat.le_refl _) _
end Go.Proofs.Yticmbajfdpchnaa
