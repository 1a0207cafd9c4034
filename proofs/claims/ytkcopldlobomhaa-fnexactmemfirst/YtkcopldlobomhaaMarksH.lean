/-
  The laws' own marks: texts that are looked up again.
-/
import Derived.Test.YtkcopldlobomhaaMarks
import Derived.Deep.RegionHeld3
namespace Go.Proofs.Ytkcopldlobomhaa
open Go.RowKit

set_option maxRecDepth 100000 in
set_option maxHeartbeats 2000000 in
theorem heldStringS_any (v : Value) (n k : Nat) (w : World) (h : SRow w v (marks k n)) (hk : 0 < k) (hk2 : k ≤ 4000000) (hl : n ≤ 1048576) :
    Calls Try.prog 64 #[v, .int .i64 (k : Int)] w fun e w' => e = .returned (.int .i64 ((k + n : Nat) : Int)) ∧ Below w.heap.size w w' := by
  have hR := hide h
  obtain ⟨ao, cap, rfl, h1, h2, _⟩ := h.form
  rw [marks_len] at h1 hR ⊢
  unfold maxLen at h2
  clear h
  go_enter Try.func64, Try.ntmps64
  go_wp2_with fail
  go_loopw [1, 5] (fun c i wr => ∃ j : Nat, j ≤ n ∧ i = .int .i64 (j : Int) ∧ c = .int .i64 ((k + j : Nat) : Int) ∧ Hid (Below w.heap.size w wr)) (fun _ i _ => n - (intOf i).toNat)
  case atStart => exact ⟨0, by omega, rfl, by simp, Below.refl _ _⟩
  case round =>
    obtain ⟨j, hj, rfl, rfl, hL⟩ := hrel
    have hle := hL.out.size
    by_cases hlt : j < n
    · have hlt2 : (j : Int) < (n : Int) := by omega
      have i3 : IntKind.i64.wrap ((j : Int) + 1) = (j : Int) + 1 := by simp [IntKind.wrap, IntKind.bits, IntKind.signed]; omega
      obtain ⟨ao', c1, q1, _, _, q2⟩ := (SRow.below (unhide hR) (unhide hL)).form
      rw [marks_len] at q1 q2
      simp only [Value.slice.injEq] at q1
      obtain ⟨rfl, _, rfl⟩ := q1
      obtain ⟨ad, rfl, hck⟩ := q2 j hlt
      rw [marks_get hlt] at hck
      clear q2
      obtain ⟨z, hz⟩ : ∃ z : Nat, z = k + j := ⟨_, rfl⟩
      rw [← hz] at hck ⊢
      have hz1 : 0 < z := by omega
      have hz2 : z ≤ 6000000 := by omega
      have HZ := hide hz
      clear hz
      have i4 : IntKind.i64.wrap ((z : Int) + 1) = (z : Int) + 1 := by simp [IntKind.wrap, IntKind.bits, IntKind.signed]; omega
      have HM : Hid (∀ u : World, Calls Try.prog 63 #[.int .i64 (z : Int)] u fun e w' => e = .returned (.string (mt z)) ∧ Below u.heap.size u w') := fun u => markText_any z u hz1 (by omega)
      generalize mt z = y at hck HM
      go_wp2_with fail
      go_region_held3 (fun w' => w'.cell? (ad.add j) = some (.string y))
        ((first | exact hck | exact pck))
        ((go_at_call 63; refine (HM.out wr.drew).mono ?_; rintro e w2 ⟨rfl, hb2⟩; have pck := (hb2.cell (cell_lt hck)).trans hck; have hL2 : Hid (Below w.heap.size w w2) := ((unhide hL).drew).trans (hb2.mono hle); clear hb2))
      go_wp2_with fail
      go_roundw
      case rel => exact ⟨j + 1, by omega, by simp, by rw [show ((k + (j + 1) : Nat) : Int) = (z : Int) + 1 by have := HZ.out; omega], hL2⟩
      case measure => simp [intOf]; omega
    · have hlt2 : decide ((j : Int) < (n : Int)) = false := by simp; omega
      have hjn : j = n := by omega
      subst hjn
      go_wp2_with fail
      go_ret
      exact ⟨rfl, unhide hL⟩
end Go.Proofs.Ytkcopldlobomhaa
