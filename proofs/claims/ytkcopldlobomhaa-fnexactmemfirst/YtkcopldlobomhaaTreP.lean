/-
  The tree's places, plain: what is above them, beside them, where two meet. No Go function in it.
-/
import Derived.Test.YtkcopldlobomhaaBase
namespace Go.Proofs.Ytkcopldlobomhaa

/-- The place of one. -/
def leafOf (who : Int) : Int := if 0 ≤ who ∧ who ≤ 7 then 7 + who else -1
/-- The place beside one. -/
def sideOf (n : Int) : Int := if 1 ≤ n ∧ n ≤ 14 then (if n % 2 = 1 then n + 1 else n - 1) else -1
/-- All places above one. -/
def upF : Nat → Nat → List Nat
  | 0, _ => []
  | f + 1, k => if k = 0 then [] else (k - 1) / 2 :: upF f ((k - 1) / 2)
def ups (k : Nat) : List Nat := upF 4 k
theorem ups_zero : ups 0 = [] := rfl
theorem ups_step : ∀ k, k < 15 → 0 < k → ups k = (k - 1) / 2 :: ups ((k - 1) / 2) := by decide
theorem ups_len : ∀ k, k < 15 → (ups k).length ≤ 3 := by decide
theorem ups_lt : ∀ k, k < 15 → ∀ p ∈ ups k, p < 7 := by decide
def upOf (n : Int) : List Int := if 0 ≤ n ∧ n ≤ 14 then (ups n.toNat).map (fun (k : Nat) => (k : Int)) else []
/-- Where two places meet. -/
def meetF : Nat → Nat → Nat → Nat
  | 0, a, _ => a
  | f + 1, a, b => if a = b then a else if b < a then meetF f ((a - 1) / 2) b else meetF f a ((b - 1) / 2)
def meets (a b : Nat) : Nat := meetF 6 a b
theorem meets_self : ∀ a, a < 15 → meets a a = a := by decide
theorem meets_left : ∀ a, a < 15 → ∀ b, b < 15 → b < a → meets a b = meets ((a - 1) / 2) b := by decide
theorem meets_right : ∀ a, a < 15 → ∀ b, b < 15 → a < b → meets a b = meets a ((b - 1) / 2) := by decide
theorem meets_comm : ∀ a, a < 15 → ∀ b, b < 15 → meets a b = meets b a := by decide
theorem meets_lt : ∀ a, a < 15 → ∀ b, b < 15 → meets a b < 15 := by decide
/-- The places above both are where they meet, and those above it. -/
theorem meets_above : ∀ a, a < 15 → ∀ b, b < 15 → (a :: ups a).filter (fun x => (b :: ups b).contains x) = meets a b :: ups (meets a b) := by decide
def meetOf (a b : Int) : Int := if (0 ≤ a ∧ a ≤ 14) ∧ 0 ≤ b ∧ b ≤ 14 then (meets a.toNat b.toNat : Int) else -1
end Go.Proofs.Ytkcopldlobomhaa
