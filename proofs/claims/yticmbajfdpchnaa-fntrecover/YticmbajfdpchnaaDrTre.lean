/-
  Drawn places and ones.
-/
import Derived.Test.YticmbajfdpchnaaDrOpen
namespace Go.Proofs.Yticmbajfdpchnaa
open Go.RowKit

set_option maxRecDepth 100000 in
set_option maxHeartbeats 2000000 in
theorem l20Node_any (b : Nat) (C : Code) (p : Nat) (w : World) (h : DrC b C p w) (hp : p + 3 ≤ 1000000) :
    Calls Try.prog 38 #[.pointer (some ⟨b, 0, none⟩)] w fun e w' => ∃ n : Int, e = .returned (.int .i64 n) ∧ -1 ≤ n ∧ n ≤ 15 ∧ DrC b C (p + 3) w' ∧ Ex b w w' := by
  have hD := hide h
  clear h
  go_enter Try.func38, Try.ntmps38
  go_wp2_with fail
  refine (pick_any b C p 15 _ rfl _ (unhide hD) (by omega) (by omega) (by omega)).mono ?_
  rintro e w1 ⟨v1, rfl, hv1, d1, x1⟩
  have D1 := hide d1
  have X1 := hide x1
  clear d1 x1 hD
  go_wp2_with fail
  refine (pick_any b C (p + 1) 8 _ rfl _ (unhide D1) (by omega) (by omega) (by omega)).mono ?_
  rintro e w2 ⟨v2, rfl, hv2, d2, x2⟩
  have D2 := hide d2
  have X2 := hide (X1.out.trans x2)
  clear d2 x2 D1 X1
  have i1 : IntKind.i64.wrap (7 + (v2 : Int)) = 7 + (v2 : Int) := by simp [IntKind.wrap, IntKind.bits, IntKind.signed]; omega
  go_wp2_with fail
  refine (pick_any b C (p + 1 + 1) 7 _ rfl _ (((unhide D2).alloc _).alloc _) (by omega) (by omega) (by omega)).mono ?_
  rintro e w3 ⟨v3, rfl, hv3, d3, x3⟩
  have hb : b < w2.heap.size := (unhide D2).lt
  have R : ∃ (k : Nat) (n : Int), k < 4 ∧ -1 ≤ n ∧ n ≤ 15 ∧ w3.cell? ⟨w2.heap.size + 1, v3, none⟩ = some (.int .i64 (k : Int)) ∧ w3.cell? ⟨w2.heap.size, k, none⟩ = some (.int .i64 n) := by
    have q0 := fun k => x3.cell (p := ⟨w2.heap.size, k, none⟩) (by simp; omega) (by simp; omega)
    have q1 := fun k => x3.cell (p := ⟨w2.heap.size + 1, k, none⟩) (by simp) (by simp; omega)
    rcases (by omega : v3 = 0 ∨ v3 = 1 ∨ v3 = 2 ∨ v3 = 3 ∨ v3 = 4 ∨ v3 = 5 ∨ v3 = 6) with rfl | rfl | rfl | rfl | rfl | rfl | rfl
    · exact ⟨0, v1, by omega, by omega, by omega, by rw [q1]; simp [go_sem], by rw [q0]; simp [go_sem]⟩
    · exact ⟨0, v1, by omega, by omega, by omega, by rw [q1]; simp [go_sem], by rw [q0]; simp [go_sem]⟩
    · exact ⟨0, v1, by omega, by omega, by omega, by rw [q1]; simp [go_sem], by rw [q0]; simp [go_sem]⟩
    · exact ⟨1, 7 + v2, by omega, by omega, by omega, by rw [q1]; simp [go_sem], by rw [q0]; simp [go_sem]⟩
    · exact ⟨1, 7 + v2, by omega, by omega, by omega, by rw [q1]; simp [go_sem], by rw [q0]; simp [go_sem]⟩
    · exact ⟨2, -1, by omega, by omega, by omega, by rw [q1]; simp [go_sem], by rw [q0]; simp [go_sem]⟩
    · exact ⟨3, 15, by omega, by omega, by omega, by rw [q1]; simp [go_sem], by rw [q0]; simp [go_sem]⟩
  obtain ⟨k, n, hk, hn1, hn2, c1, c2⟩ := R
  have D3 := hide d3
  have X3 : Hid (Ex b w w3) := ((unhide X2).alloc _).alloc _ |>.trans x3
  clear d3 x3 D2 X2
  have j1 : (v3 : Int) < 7 := by omega
  have j2 : (k : Int) < 4 := by omega
  go_wp2_with fail
  go_ret
  exact ⟨n, rfl, hn1, hn2, unhide D3, unhide X3⟩
#print axioms l20Node_any
end Go.Proofs.Yticmbajfdpchnaa
