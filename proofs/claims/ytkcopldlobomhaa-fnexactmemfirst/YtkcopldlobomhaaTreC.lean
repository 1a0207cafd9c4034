/-
  The tree, plain: what covers, who is in, what is cleared. No Go function in it.
-/
import Derived.Test.YtkcopldlobomhaaTreP
namespace Go.Proofs.Ytkcopldlobomhaa

/-- The places with keys that cover all from one down. -/
def covF (xs : List ByteArray) : Nat → Nat → List Nat
  | 0, _ => []
  | f + 1, n => if xs.getD n ByteArray.empty ≠ ByteArray.empty then [n] else if 7 ≤ n then [] else covF xs f (2 * n + 1) ++ covF xs f (2 * n + 2)
def cover (xs : List ByteArray) (n : Nat) : List Nat := covF xs 4 n
theorem covF_step (xs : List ByteArray) (f n : Nat) : covF xs (f + 1) n = if xs.getD n ByteArray.empty ≠ ByteArray.empty then [n] else if 7 ≤ n then [] else covF xs f (2 * n + 1) ++ covF xs f (2 * n + 2) := rfl
theorem covF_more (xs : List ByteArray) : ∀ f n, 1 ≤ f → 8 ≤ (n + 1) * 2 ^ (f - 1) → covF xs (f + 1) n = covF xs f n := by
  intro f
  induction f with
  | zero => intro n h; omega
  | succ f ih =>
    intro n _ h
    rw [covF_step xs (f + 1) n, covF_step xs f n]
    split
    · rfl
    · split
      · rfl
      · next hn =>
        cases f with
        | zero => simp at h; omega
        | succ g =>
          have e : (n + 1) * 2 ^ (g + 1 + 1 - 1) = (2 * n + 2) * 2 ^ g := by
            rw [show g + 1 + 1 - 1 = g + 1 from rfl, Nat.pow_succ, Nat.mul_comm (2 ^ g) 2, ← Nat.mul_assoc]
            congr 1
            omega
          rw [e] at h
          have h2 : (2 * n + 2) * 2 ^ g ≤ (2 * n + 2 + 1) * 2 ^ g := Nat.mul_le_mul_right _ (by omega)
          rw [ih (2 * n + 1) (by omega) (by simpa using h), ih (2 * n + 2) (by omega) (by simp; omega)]
theorem cover_three (xs : List ByteArray) (n : Nat) (h : 1 ≤ n) : covF xs 3 n = cover xs n := (covF_more xs 3 n (by omega) (by simp; omega)).symm
/-- A place without a key that is nobody's: what covers both under it. -/
theorem cover_two (xs : List ByteArray) (n : Nat) (h : xs.getD n ByteArray.empty = ByteArray.empty) (hn : n < 7) : cover xs n = cover xs (2 * n + 1) ++ cover xs (2 * n + 2) := by
  unfold cover
  rw [covF_step, if_neg (by simpa using h), if_neg (by omega), cover_three xs _ (by omega), cover_three xs _ (by omega)]
  rfl
theorem cover_one (xs : List ByteArray) (n : Nat) (h : xs.getD n ByteArray.empty ≠ ByteArray.empty) : cover xs n = [n] := by
  unfold cover
  rw [covF_step, if_pos h]
theorem cover_none (xs : List ByteArray) (n : Nat) (h : xs.getD n ByteArray.empty = ByteArray.empty) (hn : 7 ≤ n) : cover xs n = [] := by
  unfold cover
  rw [covF_step, if_neg (by simpa using h), if_pos hn]
/-- Who is in. -/
def inOf (xs : List ByteArray) : List Nat := (List.range 8).filter fun k => decide (xs.getD (7 + k) ByteArray.empty ≠ ByteArray.empty)
/-- A tree without the keys of some places. -/
def wipe (xs : List ByteArray) (ps : List Nat) : List ByteArray := ps.foldl (fun ys p => ys.set p ByteArray.empty) xs
def clearOf (xs : List ByteArray) (who : Nat) : List ByteArray := wipe xs ((7 + who) :: ups (7 + who))
end Go.Proofs.Ytkcopldlobomhaa
