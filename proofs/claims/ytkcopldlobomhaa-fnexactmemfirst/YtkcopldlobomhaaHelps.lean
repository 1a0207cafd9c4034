/-
  The laws' own helpers over rows of texts: how great one is, a copy of one, whether two are the same.
-/
import Derived.Test.YtkcopldlobomhaaEqS
namespace Go.Proofs.Ytkcopldlobomhaa
open Go.RowKit

/-- The first k of some texts, and as many empty ones as there are more. -/
def part (xs : List ByteArray) (k : Nat) : List Value := (xs.take k).map Value.string ++ List.replicate (xs.length - k) (Value.string ⟨#[]⟩)
theorem part_zero (xs : List ByteArray) : part xs 0 = List.replicate xs.length (Value.string ⟨#[]⟩) := by unfold part; simp
theorem part_all (xs : List ByteArray) : part xs xs.length = xs.map Value.string := by unfold part; simp
theorem part_set (xs : List ByteArray) (k : Nat) (h : k < xs.length) : (part xs k).set k (.string (xs.getD k ByteArray.empty)) = part xs (k + 1) := by
  unfold part
  apply List.ext_getElem?
  intro i
  rw [List.getElem?_set]
  simp only [List.length_append, List.length_map, List.length_take, List.length_replicate]
  by_cases hik : k = i
  · subst hik
    rw [if_pos rfl, if_pos (by omega), List.getElem?_append_left (by simp; omega)]
    simp [h]
  · rw [if_neg hik]
    by_cases hlt : i < k
    · rw [List.getElem?_append_left (by simp; omega), List.getElem?_append_left (by simp; omega)]
      simp [hlt, show i < k + 1 by omega]
    · rw [List.getElem?_append_right (by simp; omega), List.getElem?_append_right (by simp; omega)]
      simp only [List.length_map, List.length_take, List.getElem?_replicate]
      congr 1
      simp
      omega

theorem part_at (xs : List ByteArray) (k : Nat) (h : k < xs.length) : (part xs k)[k]? = some (.string ⟨#[]⟩) := by
  unfold part
  rw [List.getElem?_append_right (by simp; omega)]
  simp only [List.length_map, List.length_take, List.getElem?_replicate]
  rw [if_pos (by omega)]

theorem info_str' : (Try.prog.info? 9).map (fun i => (i.zero, i.size, i.bytes)) = some (some (.string ⟨#[]⟩), 1, 16) := by kernel_rfl

#print axioms eqStringS_any
end Go.Proofs.Ytkcopldlobomhaa
