/-
  The program's copy of names.
-/
import Derived.Test.YtkcopldlobomhaaHelps
import Derived.Test.YtkcopldlobomhaaClone
namespace Go.Proofs.Ytkcopldlobomhaa
open Go.RowKit

set_option maxHeartbeats 2000000 in
theorem cloneNames_any (v : Value) (xs : List ByteArray) (w : World) (h : SRow w v xs) (hl : xs.length ≤ 1048576) (hy : ∀ x ∈ xs, x.size ≤ 1000000) :
    Calls Try.prog 50 #[v] w fun e w' => ∃ v' : Value, e = .returned v' ∧ w'.ownsRow w.heap.size 9 1 v' xs.length (xs.map Value.string) ∧ Below w.heap.size w w' := by
  obtain ⟨ao, cap, rfl, h1, h2, hc⟩ := h.form
  have hR := hide h
  unfold maxLen at h2
  have HY := hide hy
  clear h hc hy
  obtain ⟨i0, hi, hz0, hz1, hz2⟩ := info_parts info_str'
  have hI := hide (And.intro hi (And.intro hz0 (And.intro hz1 hz2)))
  have hB2 : Hid (i0.bytes * xs.length ≤ 281474976710656) := by show _ ≤ _; rw [hz2]; omega
  clear hi hz0 hz1 hz2
  go_enter Try.func50, Try.ntmps50
  go_wp2_with (at_make; refine wpList_make_full _ rfl _ _ 25 rfl w.heap.size 9 i0 (.string ⟨#[]⟩) 1 Try.underlying25 (unhide hI).1 (unhide hI).2.1 (unhide hI).2.2.1 _ _ _ _ xs.length rfl rfl rfl rfl (unhide hB2) (by unfold maxLen; omega) (Nat.le_refl _) ?_)
  intro w1 hown hgrow
  have hO1 : Hid (w1.ownsRow w.heap.size 9 1 (.slice (some ⟨w.heap.size, 0, none⟩) xs.length xs.length) xs.length (part xs 0)) := by
    rw [part_zero]
    have e : (madeCells #[Value.string ⟨#[]⟩] xs.length).toList = List.replicate xs.length (Value.string ⟨#[]⟩) := by
      simp [madeCells, Nat.mod_one, List.map_const']
    rw [← e]
    exact hown
  have hL1 : Hid (Below w.heap.size w w1) := (Below.refl _ _).grown hgrow (Nat.le_refl _) (fun k hk => by cases hk)
  clear hown hgrow
  go_wp2_with fail
  go_loopw [11] (fun i wr => ∃ k : Nat, k ≤ xs.length ∧ i = .int .i64 (k : Int) ∧ Hid (wr.ownsRow w.heap.size 9 1 (.slice (some ⟨w.heap.size, 0, none⟩) xs.length xs.length) xs.length (part xs k)) ∧ Hid (Below w.heap.size w wr)) (fun i _ => xs.length - (intOf i).toNat)
  case atStart => exact ⟨0, by omega, rfl, hO1, hL1⟩
  case round =>
    clear hO1 hL1
    obtain ⟨k, hk, rfl, hO, hL⟩ := hrel
    by_cases hlt : k < xs.length
    · have hlt2 : (k : Int) < (xs.length : Int) := by omega
      obtain ⟨ao', c1, q1, _, _, q2⟩ := (SRow.below (unhide hR) (unhide hL)).form
      simp only [Value.slice.injEq] at q1
      obtain ⟨rfl, _, rfl⟩ := q1
      obtain ⟨a, rfl, hck⟩ := q2 k hlt
      clear q2
      have i3 : IntKind.i64.wrap ((k : Int) + 1) = (k : Int) + 1 := by simp [IntKind.wrap, IntKind.bits, IntKind.signed]; omega
      have hY : Hid ((xs.getD k ByteArray.empty).size ≤ 1000000) := HY.out _ (getD_mem hlt)
      have hps := hide (part_set xs k hlt)
      generalize xs.getD k ByteArray.empty = y at hck hY hps
      have hle := hL.out.size
      go_wp2_with fail
      refine (clone_any y _ hY.out).mono ?_
      rintro e w2 ⟨rfl, hb2⟩
      have hO2 := own_below' (unhide hO) hb2
      have hL2 := (unhide hL).trans (hb2.mono hle)
      have hle2 := hL2.size
      have hfz := hO2.frozenAt k
      have hcell : w2.cell? ⟨w.heap.size, k, none⟩ = some (.string ⟨#[]⟩) := (hO2.cellAt k (by omega)).trans (part_at xs k hlt)
      have hS1 := hO2.stored k (.string y)
      rw [hps.out] at hS1
      have hS2 := hide hS1
      have hL3 := hide hL2
      clear hS1 hO2 hL2 hb2 hck
      go_wp2_with fail
      go_roundw
      case rel => exact ⟨k + 1, by omega, by simp, hS2.out.1, (unhide hL3).grown hS2.out.2 hle2 (fun j hj => by cases hj; exact Nat.le_refl _)⟩
      case measure => simp [intOf]; omega
    · have hlt2 : decide ((k : Int) < (xs.length : Int)) = false := by simp; omega
      have hkn : k = xs.length := by omega
      subst hkn
      rw [part_all] at hO
      go_wp2_with fail
      go_ret
      exact ⟨_, rfl, unhide hO, unhide hL⟩
end Go.Proofs.Ytkcopldlobomhaa
