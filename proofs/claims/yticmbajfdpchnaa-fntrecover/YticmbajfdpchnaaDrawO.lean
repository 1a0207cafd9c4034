/-
  One in so many: odd.
-/
import Derived.Test.YticmbajfdpchnaaDraw
namespace Go.Proofs.Yticmbajfdpchnaa
open Go.RowKit

set_option maxHeartbeats 400000 in
theorem odd_any (b : Nat) (C : Code) (p n : Nat) (m : Int) (hm : m = (n : Int)) (w : World) (h : DrC b C p w) (hn : 1 ≤ n) (hn2 : n ≤ 1000) (hp : p ≤ 1000000) :
    Calls Try.prog 46 #[.pointer (some ⟨b, 0, none⟩), .int .i64 m] w fun e w' => ∃ c : Bool, e = .returned (.bool c) ∧ DrC b C (p + 1) w' ∧ Ex b w w' := by
  subst hm
  have hD := hide h
  clear h
  go_enter Try.func46, Try.ntmps46
  go_wp2_with fail
  refine (pick_any b C p n _ rfl _ (unhide hD) hn hn2 hp).mono ?_
  rintro e w1 ⟨v, rfl, hv, d1, x1⟩
  have D1 := hide d1
  clear d1
  go_wp2_with fail
  go_ret
  exact ⟨_, rfl, unhide D1, x1⟩
#print axioms pick_any
#print axioms odd_any
end Go.Proofs.Yticmbajfdpchnaa
