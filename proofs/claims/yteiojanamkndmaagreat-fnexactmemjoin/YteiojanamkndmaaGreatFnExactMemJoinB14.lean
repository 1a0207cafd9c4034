/-
  The program's test of boxes.
-/
import Derived.Test.YteiojanamkndmaaGreatFnExactMemJoinB4
import Derived.Test.YteiojanamkndmaaGreatFnExactMemJoinB2
namespace Go.Proofs.YteiojanamkndmaaGreat
open Go.RowKit

set_option maxRecDepth 100000 in
set_option maxHeartbeats 2000000 in
theorem areBoxes_any (v : Value) (bs : List Bx) (w : World) (h : BRow w v bs) (hx : ∀ b ∈ bs, b.1.size ≤ maxLen ∧ b.2.size ≤ maxLen) :
    Calls Tryz.prog 79 #[v] w fun e w' => e = .returned (.bool (okBoxes bs)) ∧ Below w.heap.size w w' := by
  have hR := hide h
  have hX := hide hx
  obtain ⟨ao, cap, rfl, h1, h2, _⟩ := h
  unfold maxLen at h2
  clear hx
  by_cases hmost : 400 < bs.length
  · have h1 : (400 : Int) < (bs.length : Int) := by omega
    have he : okBoxes bs = false := by
      cases q : okBoxes bs with
      | false => rfl
      | true => have := (okBoxes_iff.1 q).1; omega
    go_enter Tryz.func79, Tryz.ntmps79
    go_wp2_with fail
    go_ret
    exact ⟨ret_bool' he.symm, Below.refl _ _⟩
  have h1 : decide ((400 : Int) < (bs.length : Int)) = false := by simp; omega
  go_enter Tryz.func79, Tryz.ntmps79
  go_wp2_with fail
  go_loopw [10] (fun i wr => ∃ k : Nat, k ≤ bs.length ∧ i = .int .i64 (k : Int) ∧ Hid (∀ j, j < k → Kw.ok (bs.getD j noBx).1 = true ∧ Kw.ok (bs.getD j noBx).2 = true) ∧ Hid (Below w.heap.size w wr)) (fun i _ => bs.length - (intOf i).toNat)
  case atStart => exact ⟨0, by omega, rfl, fun j hj => by omega, Below.refl _ _⟩
  case round =>
    obtain ⟨k, hk, rfl, hN, hL⟩ := hrel
    by_cases hlt : k < bs.length
    · have hlt2 : (k : Int) < (bs.length : Int) := by omega
      obtain ⟨ao', c1, q1, _, _, q2⟩ := BRow.below (unhide hR) (unhide hL)
      simp only [Value.slice.injEq] at q1
      obtain ⟨rfl, z1, rfl⟩ := q1
      clear z1
      obtain ⟨a, rfl, hca, hcb⟩ := q2 k hlt
      rw [add_one] at hcb
      clear q2
      have hmem := getB_mem hlt
      have M : Hid ((bs.getD k noBx).1.size ≤ maxLen ∧ (bs.getD k noBx).2.size ≤ maxLen) := hX.out _ hmem
      have hle := hL.out.size
      have i3 : IntKind.i64.wrap ((k : Int) + 1) = (k : Int) + 1 := by simp [IntKind.wrap, IntKind.bits, IntKind.signed]; omega
      have hNo : Hid (Kw.ok (bs.getD k noBx).1 = false ∨ Kw.ok (bs.getD k noBx).2 = false → okBoxes bs = false) := by
        intro hf
        cases q : okBoxes bs with
        | false => rfl
        | true =>
          have := (okBoxes_iff.1 q).2 _ hmem
          rcases hf with hf | hf
          · rw [hf] at this; cases this.1
          · rw [hf] at this; cases this.2
      have hYes : Hid (Kw.ok (bs.getD k noBx).1 = true → Kw.ok (bs.getD k noBx).2 = true → ∀ j, j < k + 1 → Kw.ok (bs.getD j noBx).1 = true ∧ Kw.ok (bs.getD j noBx).2 = true) := by
        intro ha hb j hj
        by_cases hjk : j = k
        · subst hjk; exact ⟨ha, hb⟩
        · exact hN j (by omega)
      clear hmem
      generalize bs.getD k noBx = y at hca hcb M hNo hYes
      have HBX : Hid (Below w.heap.size w (wr.alloc (.cells #[.string y.1, .string y.2] 39))) := (unhide hL).alloc hle _
      go_wp2_with fail
      refine (iSecOk_any y.1 _ M.out.1).mono ?_
      cases hy : Kw.ok y.1 with
      | false =>
        have he := hNo.out (.inl hy)
        rintro e w1 ⟨rfl, hb1⟩
        have hL1 := hide ((unhide HBX).trans (hb1.mono (by simp; omega)))
        clear hb1 hy
        go_wp2_with fail
        go_ret
        exact ⟨ret_bool' he.symm, unhide hL1⟩
      | true =>
        have HY := hide hy
        rintro e w1 ⟨rfl, hb1⟩
        have hcb1 := keep1 (b := wr.heap.size) (o := 1) (v := .string y.2) hb1 (by simp [go_sem]) (by simp)
        have hL1 := hide ((unhide HBX).trans (hb1.mono (by simp; omega)))
        have hle1 := hL1.out.size
        clear hb1 hy hca hcb
        go_wp2_with fail
        refine (iSecOk_any y.2 _ M.out.2).mono ?_
        cases hz : Kw.ok y.2 with
        | false =>
          have he := hNo.out (.inr hz)
          rintro e w2 ⟨rfl, hb2⟩
          have hL2 := hide ((unhide hL1).trans (hb2.mono hle1))
          clear hb2 hz
          go_wp2_with fail
          go_ret
          exact ⟨ret_bool' he.symm, unhide hL2⟩
        | true =>
          have hN1 := hide (hYes.out HY.out hz)
          rintro e w2 ⟨rfl, hb2⟩
          have hL2 := hide ((unhide hL1).trans (hb2.mono hle1))
          clear hb2 hz
          go_wp2_with fail
          go_roundw
          case rel => exact ⟨k + 1, by omega, by simp, hN1, hL2⟩
          case measure => simp [intOf]; omega
    · have hlt2 : decide ((k : Int) < (bs.length : Int)) = false := by simp; omega
      have he : okBoxes bs = true := okBoxes_iff.2 ⟨by omega, fun b hb => by
        obtain ⟨j, hj, e⟩ := List.getElem_of_mem hb
        have := hN.out j (by omega)
        rw [List.getD_eq_getElem?_getD, List.getElem?_eq_getElem hj] at this
        rw [← e]; exact this⟩
      go_wp2_with fail
      go_ret
      exact ⟨ret_bool' he.symm, unhide hL⟩

end Go.Proofs.YteiojanamkndmaaGreat
