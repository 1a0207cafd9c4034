/-
  A tree in a variable.
-/
import Derived.Test.YticmbajfdpchnaaTSet0
import Derived.Test.YticmbajfdpchnaaDrTree2
import Derived.Test.YticmbajfdpchnaaBxd
namespace Go.Proofs.Yticmbajfdpchnaa
open Go.RowKit

/-- A tree in a variable. -/
structure TV (b : Nat) (v : Value) (xs : List ByteArray) (w : World) : Prop where
  box : Boxed w b 25 v
  row : SRow w v xs
theorem TV.below {b : Nat} {v : Value} {xs : List ByteArray} {w w' : World} (h : TV b v xs w) (hb : Below w.heap.size w w') : TV b v xs w' := ⟨box_below h.box hb, h.row.below hb⟩
theorem TV.drew {b : Nat} {v : Value} {xs : List ByteArray} {w : World} (h : TV b v xs w) : TV b v xs w.drew := h.below (Below.refl _ _).drew
theorem TV.new {v : Value} {xs : List ByteArray} {w : World} (h : SRow w v xs) : TV w.heap.size v xs (w.alloc (.cells #[v] 25)) := ⟨Boxed.new w _ v, h.below (below_new w _)⟩
theorem set_small (xs : List ByteArray) (p : Int) (s : ByteArray) : ∀ x ∈ setRes xs p s, x.size ≤ maxLen := by
  by_cases hy : (treOk xs = true ∧ 0 ≤ p ∧ p ≤ 7) ∧ maySet s = true
  · obtain ⟨k, rfl⟩ : ∃ k : Nat, p = (k : Int) := ⟨p.toNat, by omega⟩
    rw [setRes_yes hy.1.1 (by omega) hy.2]
    intro x hx
    exact Nat.le_trans (treOk_small (treOk_set hy.1.1 (by omega) hy.2) x hx) (by unfold maxLen; omega)
  · rw [setRes_no hy]; intro x hx; simp at hx
theorem keys_op (v : Value) (w : World) : (Instr.field 25 (.agg #[v]) 0).run Try.prog w = .ok v w := by kernel_rfl
end Go.Proofs.Yticmbajfdpchnaa
