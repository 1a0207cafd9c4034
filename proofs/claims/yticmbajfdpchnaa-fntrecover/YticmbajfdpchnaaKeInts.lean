/-
  The laws' own looks over rows of numbers: whether two are the same, whether a number is one of some.
-/
import Derived.Test.YticmbajfdpchnaaIntR
namespace Go.Proofs.Yticmbajfdpchnaa
open Go.RowKit

theorem ints_eq {xs ys : List Int} (hl : xs.length = ys.length) (h : ∀ j, j < xs.length → xs.getD j 0 = ys.getD j 0) : xs = ys := by
  apply List.ext_getElem hl
  intro i h1 h2
  have := h i h1
  rw [List.getD_eq_getElem?_getD, List.getElem?_eq_getElem h1, List.getD_eq_getElem?_getD, List.getElem?_eq_getElem h2] at this
  exact this
theorem mem_getI {xs : List Int} {x : Int} (h : x ∈ xs) : ∃ k, k < xs.length ∧ xs.getD k 0 = x := by
  obtain ⟨j, hj, e⟩ := List.getElem_of_mem h
  refine ⟨j, hj, ?_⟩
  rw [List.getD_eq_getElem?_getD, List.getElem?_eq_getElem hj]
  exact e
theorem getI_mem {xs : List Int} {k : Nat} (h : k < xs.length) : xs.getD k 0 ∈ xs := by
  rw [List.getD_eq_getElem?_getD, List.getElem?_eq_getElem h]
  exact List.getElem_mem h

set_option maxHeartbeats 1000000 in
theorem keInts_any (v u : Value) (xs ys : List Int) (w : World) (h : IRow w v xs) (k : IRow w u ys) :
    Calls Try.prog 15 #[v, u] w fun e w' => e = .returned (.bool (decide (xs = ys))) ∧ Below w.heap.size w w' := by
  obtain ⟨ao, cap, rfl, h1, h2, hc⟩ := h.form
  obtain ⟨bo, cap', rfl, h1', h2', hc'⟩ := k.form
  have hR := hide h
  have hS := hide k
  unfold maxLen at h2 h2'
  clear h k hc hc'
  by_cases hl : xs.length = ys.length
  · rw [← hl] at hS h1' ⊢
    have HL := hide hl
    clear hl
    go_enter Try.func15, Try.ntmps15
    go_wp2_with fail
    go_loopw [5] (fun i wr => ∃ k : Nat, k ≤ xs.length ∧ i = .int .i64 (k : Int) ∧ Hid (∀ j, j < k → xs.getD j 0 = ys.getD j 0) ∧ Hid (Below w.heap.size w wr)) (fun i _ => xs.length - (intOf i).toNat)
    case atStart => exact ⟨0, by omega, rfl, fun j hj => by omega, Below.refl _ _⟩
    case round =>
      obtain ⟨k, hk, rfl, hN, hL⟩ := hrel
      by_cases hlt : k < xs.length
      · have hlt2 : (k : Int) < (xs.length : Int) := by omega
        obtain ⟨ao', c1, q1, _, _, q2⟩ := (IRow.below (unhide hR) (unhide hL)).form
        simp only [Value.slice.injEq] at q1
        obtain ⟨rfl, _, rfl⟩ := q1
        obtain ⟨bo', c2, q3, _, _, q4⟩ := (IRow.below (unhide hS) (unhide hL)).form
        simp only [Value.slice.injEq] at q3
        obtain ⟨rfl, z3, rfl⟩ := q3
        clear z3
        obtain ⟨a, rfl, hck⟩ := q2 k hlt
        obtain ⟨b, rfl, hck'⟩ := q4 k (by have := HL.out; omega)
        clear q2 q4
        have i3 : IntKind.i64.wrap ((k : Int) + 1) = (k : Int) + 1 := by simp [IntKind.wrap, IntKind.bits, IntKind.signed]; omega
        have hYes : Hid (xs.getD k 0 = ys.getD k 0 → ∀ j, j < k + 1 → xs.getD j 0 = ys.getD j 0) := by
          intro ht j hj
          by_cases hjk : j = k
          · subst hjk; exact ht
          · exact hN j (by omega)
        have hNo : Hid (xs.getD k 0 ≠ ys.getD k 0 → decide (xs = ys) = false) := by
          intro ht
          simp
          intro e
          exact ht (by rw [e])
        generalize xs.getD k 0 = y at hck hYes hNo
        generalize ys.getD k 0 = z at hck' hYes hNo
        by_cases he : y = z
        · have hN1 := hide (hYes.out he)
          subst he
          go_wp2_with fail
          go_quiet (fail)
          go_wp2_with fail
          go_roundw
          case rel => exact ⟨k + 1, by omega, by simp, hN1, below_drewN (unhide hL) _⟩
          case measure => simp [intOf]; omega
        · have hE := hNo.out he
          have hnk : (y == z) = false := by simpa using he
          have hnk2 : (y != z) = true := by simpa using he
          go_wp2_with fail
          go_quiet (fail)
          go_wp2_with fail
          go_ret
          exact ⟨ret_bool' hE.symm, below_drewN (unhide hL) _⟩
      · have hlt2 : decide ((k : Int) < (xs.length : Int)) = false := by simp; omega
        have hE : decide (xs = ys) = true := by
          simp
          exact ints_eq HL.out (fun j hj => hN j (by omega))
        go_wp2_with fail
        go_ret
        exact ⟨ret_bool' hE.symm, unhide hL⟩
  · have hl2 : ((xs.length : Int) == (ys.length : Int)) = false := by simp; omega
    have hE : decide (xs = ys) = false := by
      simp
      intro e
      exact hl (by rw [e])
    go_enter Try.func15, Try.ntmps15
    go_wp2_with fail
    go_ret
    exact ⟨ret_bool' hE.symm, Below.refl _ _⟩

end Go.Proofs.Yticmbajfdpchnaa
