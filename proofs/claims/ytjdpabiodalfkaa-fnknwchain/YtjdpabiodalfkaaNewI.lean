/-
  The program's MakNew: its contract.
-/
import Derived.Test.YtjdpabiodalfkaaNew
namespace Go.Proofs.Ytjdpabiodalfkaa
open Go.RowKit

set_option maxHeartbeats 400000 in
theorem iMakNew_any (who n : Int) (w : World) :
    Calls Try.prog 34 #[.int .i64 who, .int .i64 n] w fun e w' => e = .returned (.string (mkNew who n)) ∧ Below w.heap.size w w' := by
  by_cases h1 : who < 0 ∨ 8 ≤ who
  · have e1 : mkNew who n = ⟨#[]⟩ := by unfold mkNew; rw [if_neg (by omega)]
    rw [e1]
    go_enter Try.func34, Try.ntmps34
    go_wp2_with (go_at_call 57; refine (isOne_no _ _ h1).mono ?_; rintro e w' ⟨rfl, rfl⟩)
    go_ret
    exact ⟨rfl, Below.refl _ _⟩
  have g0 : 0 ≤ who := by omega
  have g1 : who < 8 := by omega
  by_cases h2 : n < 1
  · have e1 : mkNew who n = ⟨#[]⟩ := by unfold mkNew; rw [if_neg (by omega)]
    rw [e1]
    clear h1
    go_enter Try.func34, Try.ntmps34
    go_wp2_with (go_at_call 57; refine (isOne_yes _ _ g0 g1).mono ?_; rintro e w' ⟨rfl, rfl⟩)
    go_ret
    exact ⟨rfl, Below.refl _ _⟩
  have g2 : 1 ≤ n := by omega
  have d2 : decide (n < 1) = false := by simp; omega
  by_cases h3 : 99 < n
  · have e1 : mkNew who n = ⟨#[]⟩ := by unfold mkNew; rw [if_neg (by omega)]
    rw [e1]
    clear h1 h2
    go_enter Try.func34, Try.ntmps34
    go_wp2_with (go_at_call 57; refine (isOne_yes _ _ g0 g1).mono ?_; rintro e w' ⟨rfl, rfl⟩)
    go_ret
    exact ⟨rfl, Below.refl _ _⟩
  have d3 : decide (99 < n) = false := by simp; omega
  have e1 : mkNew who n = newName who.toNat n.toNat := by unfold mkNew; rw [if_pos (by omega)]
  rw [e1]
  have g3 : n < 100 := by omega
  have g4 : 0 ≤ n := by omega
  clear h1 h2 h3 e1
  go_enter Try.func34, Try.ntmps34
  go_wp2_with (first | (go_at_call 57; refine (isOne_yes _ _ g0 g1).mono ?_; rintro e w' ⟨rfl, rfl⟩) | (go_at_call 55; refine (nameOf_new _ _ _ g0 g1 g4 g3).mono ?_; rintro e w' ⟨rfl, hb⟩))
  go_ret
  exact ⟨rfl, hb⟩

#print axioms iMakNew_any
end Go.Proofs.Ytjdpabiodalfkaa
