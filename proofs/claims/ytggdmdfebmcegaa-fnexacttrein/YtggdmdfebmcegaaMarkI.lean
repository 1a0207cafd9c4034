/-
  The laws' own marks: numbers that are written into rows, and looked up again.
-/
import Derived.Test.YtggdmdfebmcegaaKeInts
namespace Go.Proofs.Ytggdmdfebmcegaa
open Go.RowKit

theorem row_formI {w : World} {B : Nat} {e : TypeId} {size : Nat} {v : Value} {n : Nat} {xs : List Value} (h : w.ownsRow B e size v n xs) : ∃ ao cap, v = .slice ao n cap := by
  rcases h.2 with ⟨h1, h2⟩ | ⟨g, cap, cur, h1, _⟩
  · exact ⟨none, 0, by rw [h1, h2]⟩
  · exact ⟨some _, cap, h1⟩
/-- The numbers from one on. -/
def nums (k n : Nat) : List Int := (List.range n).map fun i => ((k + i : Nat) : Int)
theorem nums_len (k n : Nat) : (nums k n).length = n := by unfold nums; simp
theorem nums_get {k n i : Nat} (h : i < n) : (nums k n).getD i 0 = ((k + i : Nat) : Int) := by
  unfold nums
  rw [List.getD_eq_getElem?_getD]
  simp [h]
/-- The first j numbered, the rest as they were. -/
def numd (k : Nat) (xs : List Int) (j : Nat) : List Int := nums k j ++ xs.drop j
theorem numd_zero (k : Nat) (xs : List Int) : numd k xs 0 = xs := by unfold numd nums; simp
theorem numd_all (k : Nat) (xs : List Int) : numd k xs xs.length = nums k xs.length := by unfold numd; simp
theorem numd_len {k : Nat} {xs : List Int} {j : Nat} (h : j ≤ xs.length) : (numd k xs j).length = xs.length := by unfold numd; rw [List.length_append, nums_len, List.length_drop]; omega
theorem numd_set {k : Nat} {xs : List Int} {j : Nat} (h : j < xs.length) : (numd k xs j).set j ((k + j : Nat) : Int) = numd k xs (j + 1) := by
  unfold numd nums
  rw [List.range_succ, List.map_append, List.set_append_right _ _ (by simp)]
  have e : (xs.drop j).set 0 ((k + j : Nat) : Int) = ((k + j : Nat) : Int) :: xs.drop (j + 1) := by rw [List.drop_eq_getElem_cons h]; rfl
  simp at e
  simp [e]

set_option maxRecDepth 100000 in
set_option maxHeartbeats 1000000 in
theorem markIntS_any (B : Nat) (v : Value) (xs : List Int) (k : Nat) (w : World) (h : OwnI B w v xs) (hk : 0 < k) (hk2 : k ≤ 4000000) (hl : xs.length ≤ 1048576) :
    Calls Try.prog 35 #[v, .int .i64 (k : Int)] w fun e w' => e = .returned (.int .i64 ((k + xs.length : Nat) : Int)) ∧ OwnI B w' v (nums k xs.length) ∧ w.grownBy w' v.ownBlock := by
  have hO := hide h
  obtain ⟨ao, cap, hv⟩ := row_formI h
  subst hv
  clear h
  go_enter Try.func35, Try.ntmps35
  go_wp2_with fail
  go_loopw [1, 5] (fun c i wr => ∃ j : Nat, j ≤ xs.length ∧ i = .int .i64 (j : Int) ∧ c = .int .i64 ((k + j : Nat) : Int) ∧ Hid (wr.ownsRow B 3 1 (.slice ao xs.length cap) xs.length ((numd k xs j).map (Value.int .i64))) ∧ Hid (w.grownBy wr (Value.ownBlock (.slice ao xs.length cap)))) (fun _ i _ => xs.length - (intOf i).toNat)
  case atStart => exact ⟨0, by omega, rfl, by simp, by rw [numd_zero]; exact unhide hO, ⟨rfl, rfl, rfl, Nat.le_refl _, fun _ _ _ => rfl⟩⟩
  case round =>
    obtain ⟨j, hj, rfl, rfl, hOj, hG⟩ := hrel
    by_cases hlt : j < xs.length
    · have hlt2 : (j : Int) < (xs.length : Int) := by omega
      have i3 : IntKind.i64.wrap ((j : Int) + 1) = (j : Int) + 1 := by simp [IntKind.wrap, IntKind.bits, IntKind.signed]; omega
      obtain ⟨z, hz⟩ : ∃ z : Nat, z = k + j := ⟨_, rfl⟩
      rw [← hz]
      have hz1 : 0 < z := by omega
      have hz2 : z ≤ 6000000 := by omega
      have HZ := hide hz
      clear hz
      have i4 : IntKind.i64.wrap ((z : Int) + 1) = (z : Int) + 1 := by simp [IntKind.wrap, IntKind.bits, IntKind.signed]; omega
      have hOj2 := unhide hOj
      rcases hOj2.2 with ⟨q, _⟩ | ⟨g, cap', cur, hq, hBg, hcur, _⟩
      · simp at q; omega
      simp only [Value.slice.injEq] at hq
      obtain ⟨rfl, _, rfl⟩ := hq
      clear hcur
      have hml := numd_len (k := k) (xs := xs) (j := j) hj
      have hfz := hOj2.frozenAt j
      have hcell : wr.cell? ⟨g, j, none⟩ = some (.int .i64 ((numd k xs j).getD j 0)) := by
        rw [hOj2.cellAt j (by omega), List.getElem?_map, List.getElem?_eq_getElem (by omega), List.getD_eq_getElem?_getD, List.getElem?_eq_getElem (by omega)]; rfl
      obtain ⟨s1, s2⟩ := hOj2.stored j (.int .i64 (z : Int))
      rw [← List.map_set, HZ.out, numd_set hlt] at s1
      have HS1 := hide s1
      have HG3 : Hid (w.grownBy (wr.setCell ⟨g, j, none⟩ (.int .i64 (z : Int))) (some g)) := (unhide hG).trans s2
      clear s1 s2 hOj2 hOj hG hml
      generalize (numd k xs j).getD j 0 = old at hcell
      rw [← HZ.out] at HS1
      go_wp2_with fail
      go_roundw
      case rel => exact ⟨j + 1, by omega, by simp, by rw [show ((k + (j + 1) : Nat) : Int) = (z : Int) + 1 by have := HZ.out; omega], HS1, HG3⟩
      case measure => simp [intOf]; omega
    · have hlt2 : decide ((j : Int) < (xs.length : Int)) = false := by simp; omega
      have hjn : j = xs.length := by omega
      subst hjn
      rw [numd_all] at hOj
      go_wp2_with fail
      go_ret
      refine ⟨rfl, ?_, unhide hG⟩
      unfold OwnI
      rw [nums_len]
      exact unhide hOj

set_option maxRecDepth 100000 in
set_option maxHeartbeats 1000000 in
theorem heldIntS_any (v : Value) (k n : Nat) (w : World) (h : IRow w v (nums k n)) (hk : 0 < k) (hk2 : k ≤ 4000000) (hl : n ≤ 1048576) :
    Calls Try.prog 36 #[v, .int .i64 (k : Int)] w fun e w' => e = .returned (.int .i64 ((k + n : Nat) : Int)) ∧ w' = w := by
  obtain ⟨ao, cap, rfl, h1, h2, hc⟩ := h.form
  rw [nums_len] at h1 hc ⊢
  have hC := hide hc
  unfold maxLen at h2
  clear h hc
  go_enter Try.func36, Try.ntmps36
  go_wp2_with fail
  go_loop [1, 5] (fun c i => ∃ j : Nat, j ≤ n ∧ i = .int .i64 (j : Int) ∧ c = .int .i64 ((k + j : Nat) : Int)) (fun _ i => n - (intOf i).toNat)
  case atStart => exact ⟨0, by omega, rfl, by simp⟩
  case round =>
    obtain ⟨j, hj, rfl, rfl⟩ := hrel
    by_cases hlt : j < n
    · have hlt2 : (j : Int) < (n : Int) := by omega
      obtain ⟨a, rfl, hck⟩ := hC.out j hlt
      rw [nums_get hlt] at hck
      have i3 : IntKind.i64.wrap ((j : Int) + 1) = (j : Int) + 1 := by simp [IntKind.wrap, IntKind.bits, IntKind.signed]; omega
      obtain ⟨z, hz⟩ : ∃ z : Nat, z = k + j := ⟨_, rfl⟩
      rw [← hz] at hck ⊢
      have hz2 : z ≤ 6000000 := by omega
      have HZ := hide hz
      clear hz
      have i4 : IntKind.i64.wrap ((z : Int) + 1) = (z : Int) + 1 := by simp [IntKind.wrap, IntKind.bits, IntKind.signed]; omega
      go_wp2_with fail
      exact ⟨⟨j + 1, by omega, by simp, by rw [show ((k + (j + 1) : Nat) : Int) = (z : Int) + 1 by have := HZ.out; omega]⟩, by simp [intOf]; omega⟩
    · have hlt2 : decide ((j : Int) < (n : Int)) = false := by simp; omega
      have hjn : j = n := by omega
      subst hjn
      go_wp2_with fail
      go_ret
      exact ⟨rfl, rfl⟩
#print axioms markIntS_any
#print axioms heldIntS_any
end Go.Proofs.Ytggdmdfebmcegaa
