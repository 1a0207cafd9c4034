/-
  The spec's search in a row of texts.
-/
import Derived.Test.YtjdpabiodalfkaaStr0
namespace Go.Proofs.Ytjdpabiodalfkaa
open Go.RowKit

set_option maxHeartbeats 400000 in
theorem l2Has_any (v : Value) (xs : List ByteArray) (s : ByteArray) (w : World) (h : SRow w v xs) :
    Calls Try.prog 75 #[v, .string s] w fun e w' => e = .returned (.bool (has xs s)) ∧ Below w.heap.size w w' := by
  rcases h with ⟨rfl, rfl⟩ | ⟨a, cap, rfl, hlc, hm, hc⟩
  · go_enter Try.func75, Try.ntmps75
    go_wp2_with fail
    go_loop [5] (fun i => i = .int .i64 0) (fun _ => 0)
    case atStart => rfl
    case round =>
      subst hrel
      go_wp2_with fail
      go_ret
      exact ⟨rfl, Below.refl _ _⟩
  · have hC := hide hc
    unfold maxLen at hm
    clear hc
    go_enter Try.func75, Try.ntmps75
    go_wp2_with fail
    go_loop [5] (fun i => ∃ k : Nat, k ≤ xs.length ∧ i = .int .i64 (k : Int) ∧ Hid (∀ j, j < k → xs.getD j ByteArray.empty ≠ s)) (fun i => xs.length - (intOf i).toNat)
    case atStart => exact ⟨0, by omega, rfl, fun j hj => by omega⟩
    case round =>
      obtain ⟨k, hk, rfl, hN⟩ := hrel
      by_cases hlt : k < xs.length
      · have hlt2 : (k : Int) < (xs.length : Int) := by omega
        have hck := hC.out k hlt
        have i3 : IntKind.i64.wrap ((k : Int) + 1) = (k : Int) + 1 := by simp [IntKind.wrap, IntKind.bits, IntKind.signed]; omega
        by_cases he : xs.getD k ByteArray.empty = s
        · have hin : s ∈ xs := by
            rw [← he, List.getD_eq_getElem?_getD, List.getElem?_eq_getElem hlt]
            exact List.getElem_mem hlt
          generalize xs.getD k ByteArray.empty = y at *
          subst he
          go_wp2_with fail
          go_ret
          exact ⟨ret_bool' (has_iff.2 hin).symm, Below.refl _ _⟩
        · have hN2 : Hid (∀ j, j < k + 1 → xs.getD j ByteArray.empty ≠ s) := by
            intro j hj
            by_cases hjk : j = k
            · subst hjk; exact he
            · exact hN j (by omega)
          generalize xs.getD k ByteArray.empty = y at hck he
          have hnk : (y.toList == s.toList) = false := by
            cases q : (y.toList == s.toList) with
            | false => rfl
            | true => exact absurd (toList_eq.1 q) he
          go_wp2_with fail
          exact ⟨⟨k + 1, by omega, by simp, hN2⟩, by simp [intOf]; omega⟩
      · have hlt2 : decide ((k : Int) < (xs.length : Int)) = false := by simp; omega
        have hno : ¬ s ∈ xs := by
          intro hin
          obtain ⟨j, hj, e⟩ := List.getElem_of_mem hin
          refine hN j (by omega) ?_
          rw [List.getD_eq_getElem?_getD, List.getElem?_eq_getElem hj]
          exact e
        go_wp2_with fail
        go_ret
        exact ⟨ret_bool' (has_not hno).symm, Below.refl _ _⟩
#print axioms l2Has_any
end Go.Proofs.Ytjdpabiodalfkaa
