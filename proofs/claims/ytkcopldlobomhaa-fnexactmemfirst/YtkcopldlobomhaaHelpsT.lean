/-
  The laws' own helpers over trees: whether two are the same; marks in one, looked up again.
-/
import Derived.Test.YtkcopldlobomhaaEqS
import Derived.Test.YtkcopldlobomhaaMarksH
namespace Go.Proofs.Ytkcopldlobomhaa
open Go.RowKit

theorem SRow.alloc {w : World} {v : Value} {xs : List ByteArray} (h : SRow w v xs) (o : Obj) : SRow (w.alloc o) v xs := h.below ((Below.refl _ _).alloc (Nat.le_refl _) _)

set_option maxHeartbeats 1000000 in
theorem eqTreTree_any (v u : Value) (xs ys : List ByteArray) (w : World) (h : SRow w v xs) (k : SRow w u ys) :
    Calls Try.prog 40 #[.agg #[v], .agg #[u]] w fun e w' => e = .returned (.bool (decide (xs = ys))) ∧ Below w.heap.size w w' := by
  have hR := hide h
  have hS := hide k
  obtain ⟨ao, cap, rfl, _, _, _⟩ := h.form
  obtain ⟨bo, cap', rfl, _, _, _⟩ := k.form
  clear h k
  go_enter Try.func40, Try.ntmps40
  go_wp2_with fail
  refine (eqStringS_any _ _ xs ys _ (((unhide hR).alloc _).alloc _) (((unhide hS).alloc _).alloc _)).mono ?_
  rintro e w1 ⟨rfl, hb1⟩
  have HB1 : Hid (Below w.heap.size w w1) := (((Below.refl _ _).alloc (Nat.le_refl _) _).alloc (by simp) _).trans (hb1.mono (by simp; omega))
  clear hb1
  cases hd : decide (xs = ys) with
  | true =>
    have HD := hide hd
    clear hd
    go_wp2_with fail
    go_ret
    exact ⟨ret_bool' HD.out.symm, unhide HB1⟩
  | false =>
    have HD := hide hd
    clear hd
    go_wp2_with fail
    go_ret
    exact ⟨ret_bool' HD.out.symm, unhide HB1⟩

set_option maxHeartbeats 1000000 in
theorem markTreTree_any (B : Nat) (v : Value) (xs : List ByteArray) (k : Nat) (w : World) (h : Own B w v xs) (hk : 0 < k) (hk2 : k ≤ 4000000) (hl : xs.length ≤ 1048576) :
    Calls Try.prog 42 #[.agg #[v], .int .i64 (k : Int)] w fun e w' => e = .returned (.int .i64 ((k + xs.length : Nat) : Int)) ∧ Own B w' v (marks k xs.length) ∧ w.grownBy w' v.ownBlock := by
  have hO := hide h
  obtain ⟨ao, cap, hv⟩ := row_form' h
  subst hv
  clear h
  go_enter Try.func42, Try.ntmps42
  go_wp2_with fail
  refine (markStringS_any B _ xs k _ ((unhide hO).below ((Below.refl _ _).alloc (Nat.le_refl _) _)) hk hk2 hl).mono ?_
  rintro e w1 ⟨rfl, ho1, hg1⟩
  have H1 := hide ho1
  have G1 := hide ((World.grownBy_alloc w _ _).trans hg1)
  clear ho1 hg1
  go_wp2_with fail
  go_ret
  exact ⟨rfl, unhide H1, unhide G1⟩

set_option maxHeartbeats 1000000 in
theorem heldTreTree_any (v : Value) (n k : Nat) (w : World) (h : SRow w v (marks k n)) (hk : 0 < k) (hk2 : k ≤ 4000000) (hl : n ≤ 1048576) :
    Calls Try.prog 44 #[.agg #[v], .int .i64 (k : Int)] w fun e w' => e = .returned (.int .i64 ((k + n : Nat) : Int)) ∧ Below w.heap.size w w' := by
  have hR := hide h
  obtain ⟨ao, cap, rfl, _, _, _⟩ := h.form
  clear h
  go_enter Try.func44, Try.ntmps44
  go_wp2_with fail
  refine (heldStringS_any _ n k _ ((unhide hR).alloc _) hk hk2 hl).mono ?_
  rintro e w1 ⟨rfl, hb1⟩
  have HB1 : Hid (Below w.heap.size w w1) := ((Below.refl _ _).alloc (Nat.le_refl _) _).trans (hb1.mono (by simp))
  clear hb1
  obtain ⟨z, hz⟩ : ∃ z : Nat, z = k + n := ⟨_, rfl⟩
  rw [← hz]
  have hz0 : decide ((z : Int) < 0) = false := by simp
  have HZ := hide hz
  clear hz
  go_wp2_with fail
  go_ret
  exact ⟨congrArg (fun (t : Nat) => Ending.returned (.int .i64 (t : Int))) HZ.out, unhide HB1⟩
#print axioms heldTreTree_any
end Go.Proofs.Ytkcopldlobomhaa
