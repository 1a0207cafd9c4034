/-
  The tree, plain: from the last places up. No Go function in it.
-/
import Derived.Test.YtkcopldlobomhaaTreC
namespace Go.Proofs.Ytkcopldlobomhaa

/-- Whether a place has a key. -/
def keyed (xs : List ByteArray) (n : Nat) : Bool := decide (xs.getD n ByteArray.empty ≠ ByteArray.empty)
theorem cover_keyed (xs : List ByteArray) (n : Nat) (h : keyed xs n = true) : cover xs n = [n] := cover_one xs n (by simpa [keyed] using h)
theorem cover_bare (xs : List ByteArray) (n : Nat) (h : keyed xs n = false) (hn : 7 ≤ n) : cover xs n = [] := cover_none xs n (by simpa [keyed] using h) hn
theorem cover_both (xs : List ByteArray) (n : Nat) (h : keyed xs n = false) (hn : n < 7) : cover xs n = cover xs (2 * n + 1) ++ cover xs (2 * n + 2) := cover_two xs n (by simpa [keyed] using h) hn

/-- From the last places up. -/
theorem down {P : Nat → Prop} (h1 : ∀ n, 7 ≤ n → n < 15 → P n) (h2 : ∀ n, n < 7 → P (2 * n + 1) → P (2 * n + 2) → P n) : ∀ n, n < 15 → P n := by
  have a : ∀ n, 3 ≤ n → n < 15 → P n := fun n h h' => if q : 7 ≤ n then h1 n q h' else h2 n (by omega) (h1 _ (by omega) (by omega)) (h1 _ (by omega) (by omega))
  have b : ∀ n, 1 ≤ n → n < 15 → P n := fun n h h' => if q : 3 ≤ n then a n q h' else h2 n (by omega) (a _ (by omega) (by omega)) (a _ (by omega) (by omega))
  exact fun n h' => if q : 1 ≤ n then b n q h' else h2 n (by omega) (b _ (by omega) (by omega)) (b _ (by omega) (by omega))
end Go.Proofs.Ytkcopldlobomhaa
