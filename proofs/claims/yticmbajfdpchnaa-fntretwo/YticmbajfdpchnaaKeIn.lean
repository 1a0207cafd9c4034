/-
  The laws' own look whether a number is one of some.
-/
import Derived.Test.YticmbajfdpchnaaKeInts
namespace Go.Proofs.Yticmbajfdpchnaa
open Go.RowKit

set_option maxHeartbeats 1000000 in
theorem keIn_any (v : Value) (xs : List Int) (n : Int) (w : World) (h : IRow w v xs) :
    Calls Try.prog 12 #[v, .int .i64 n] w fun e w' => e = .returned (.bool (decide (n ∈ xs))) ∧ w' = w := by
  obtain ⟨ao, cap, rfl, h1, h2, hc⟩ := h.form
  have hC := hide hc
  unfold maxLen at h2
  clear h hc
  go_enter Try.func12, Try.ntmps12
  go_wp2_with fail
  go_loop [5] (fun i => ∃ k : Nat, k ≤ xs.length ∧ i = .int .i64 (k : Int) ∧ Hid (∀ j, j < k → xs.getD j 0 ≠ n)) (fun i => xs.length - (intOf i).toNat)
  case atStart => exact ⟨0, by omega, rfl, fun j hj => by omega⟩
  case round =>
    obtain ⟨k, hk, rfl, hN⟩ := hrel
    by_cases hlt : k < xs.length
    · have hlt2 : (k : Int) < (xs.length : Int) := by omega
      obtain ⟨a, rfl, hck⟩ := hC.out k hlt
      have i3 : IntKind.i64.wrap ((k : Int) + 1) = (k : Int) + 1 := by simp [IntKind.wrap, IntKind.bits, IntKind.signed]; omega
      by_cases he : xs.getD k 0 = n
      · have hE : decide (n ∈ xs) = true := by rw [← he]; exact decide_eq_true (getI_mem hlt)
        rw [he] at hck
        have HE := hide hE
        clear hE he
        go_wp2_with fail
        go_ret
        exact ⟨ret_bool' HE.out.symm, rfl⟩
      · have hN1 : Hid (∀ j, j < k + 1 → xs.getD j 0 ≠ n) := by
          intro j hj
          by_cases hjk : j = k
          · subst hjk; exact he
          · exact hN j (by omega)
        generalize xs.getD k 0 = y at hck he
        have hn : (y == n) = false := by simpa using he
        go_wp2_with fail
        exact ⟨⟨k + 1, by omega, by simp, hN1⟩, by simp [intOf]; omega⟩
    · have hlt2 : decide ((k : Int) < (xs.length : Int)) = false := by simp; omega
      have hE : Hid (decide (n ∈ xs) = false) := by
        show decide _ = false
        apply decide_eq_false
        intro hm
        obtain ⟨j, hj, e⟩ := mem_getI hm
        exact hN j (by omega) e
      go_wp2_with fail
      go_ret
      exact ⟨ret_bool' hE.out.symm, rfl⟩
#print axioms keIn_any
end Go.Proofs.Yticmbajfdpchnaa
