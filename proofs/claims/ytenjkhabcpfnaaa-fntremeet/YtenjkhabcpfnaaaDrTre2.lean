/-
  Drawn places: DrawTreUp, DrawTreSide, DrawTreMeet.
-/
import Derived.Test.YtenjkhabcpfnaaaDrTre
namespace Go.Proofs.Ytenjkhabcpfnaaa
open Go.RowKit

set_option maxHeartbeats 400000 in
theorem DrawTreUp_any (a : Option Addr) (len cap : Nat) (zs : List Int) (w : World) (h : IsRow .u8 w a len cap zs) :
    Calls Try.prog 11 #[.slice a len cap] w fun e w' => ∃ n : Int, e = .returned (.int .i64 n) ∧ -1 ≤ n ∧ n ≤ 15 ∧ Below w.heap.size w w' := by
  have hR := hide h
  clear h
  go_enter Try.func11, Try.ntmps11
  go_wp2_with fail
  refine (l20Open_any a len cap zs _ (unhide hR)).mono ?_
  rintro e w1 ⟨C, rfl, d1, hb1⟩
  have D1 := hide d1
  clear d1
  go_wp2_with fail
  refine (l20Node_any w.heap.size C 0 _ (unhide D1) (by omega)).mono ?_
  rintro e w2 ⟨n, rfl, hn1, hn2, d2, x2⟩
  have D2 := hide d2
  clear d2
  go_wp2_with fail
  go_ret
  exact ⟨_, rfl, hn1, hn2, hb1.trans (x2.below (Nat.le_refl _) hb1.size)⟩

set_option maxHeartbeats 400000 in
theorem DrawTreSide_any (a : Option Addr) (len cap : Nat) (zs : List Int) (w : World) (h : IsRow .u8 w a len cap zs) :
    Calls Try.prog 12 #[.slice a len cap] w fun e w' => ∃ n : Int, e = .returned (.int .i64 n) ∧ -1 ≤ n ∧ n ≤ 15 ∧ Below w.heap.size w w' := by
  have hR := hide h
  clear h
  go_enter Try.func12, Try.ntmps12
  go_wp2_with fail
  refine (l20Open_any a len cap zs _ (unhide hR)).mono ?_
  rintro e w1 ⟨C, rfl, d1, hb1⟩
  have D1 := hide d1
  clear d1
  go_wp2_with fail
  refine (l20Node_any w.heap.size C 0 _ (unhide D1) (by omega)).mono ?_
  rintro e w2 ⟨n, rfl, hn1, hn2, d2, x2⟩
  have D2 := hide d2
  clear d2
  go_wp2_with fail
  go_ret
  exact ⟨_, rfl, hn1, hn2, hb1.trans (x2.below (Nat.le_refl _) hb1.size)⟩

set_option maxHeartbeats 400000 in
theorem DrawTreMeet_any (a : Option Addr) (len cap : Nat) (zs : List Int) (w : World) (h : IsRow .u8 w a len cap zs) :
    Calls Try.prog 19 #[.slice a len cap] w fun e w' => ∃ n m : Int, e = .returned (.tuple #[.int .i64 n, .int .i64 m]) ∧ -1 ≤ n ∧ n ≤ 15 ∧ -1 ≤ m ∧ m ≤ 15 ∧ Below w.heap.size w w' := by
  have hR := hide h
  clear h
  go_enter Try.func19, Try.ntmps19
  go_wp2_with fail
  refine (l20Open_any a len cap zs _ (unhide hR)).mono ?_
  rintro e w1 ⟨C, rfl, d1, hb1⟩
  have D1 := hide d1
  clear d1
  go_wp2_with fail
  refine (l20Node_any w.heap.size C 0 _ (unhide D1) (by omega)).mono ?_
  rintro e w2 ⟨n, rfl, hn1, hn2, d2, x2⟩
  have D2 := hide d2
  clear d2
  go_wp2_with fail
  refine (l20Node_any w.heap.size C (0 + 3) _ (unhide D2) (by omega)).mono ?_
  rintro e w3 ⟨m, rfl, hm1, hm2, d3, x3⟩
  have D3 := hide d3
  clear d3
  go_wp2_with fail
  go_ret2
  exact ⟨_, _, rfl, hn1, hn2, hm1, hm2, hb1.trans ((x2.trans x3).below (Nat.le_refl _) hb1.size)⟩
#print axioms DrawTreMeet_any
end Go.Proofs.Ytenjkhabcpfnaaa
