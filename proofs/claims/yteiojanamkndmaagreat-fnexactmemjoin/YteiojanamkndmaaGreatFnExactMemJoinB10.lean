/-
  The specification's l4Fits.
-/
import Derived.Test.YteiojanamkndmaaGreatFnExactMemJoinB8
import Derived.Test.YteiojanamkndmaaGreatFnExactMemJoinB9
import Derived.Test.YteiojanamkndmaaGreatFnExactMemJoinB5
namespace Go.Proofs.YteiojanamkndmaaGreat
open Go.RowKit

theorem MRow.takeJ {w : World} {ao : Option Addr} {n cap j : Nat} {own : List Mo} (h : MRow w (.slice ao n cap) own) (hj : j ≤ own.length) : MRow w (.slice ao j cap) (own.take j) := by
  obtain ⟨ao', cap', q, h1, h2, h3⟩ := h
  simp only [Value.slice.injEq] at q
  obtain ⟨rfl, rfl, rfl⟩ := q
  have e : (own.take j).length = j := by rw [List.length_take]; omega
  refine ⟨ao, cap, by rw [e], by omega, h2, fun i hi => ?_⟩
  rw [e] at hi
  rw [take_getD own j i hi]
  exact h3 i (by omega)
theorem fits_no {keys : List ByteArray} {own : List Mo} {C : List Int} {j : Nat} (hj : j < own.length) (h : fitJ keys own C j = false) : fitsS keys own C = false := by
  unfold fitsS
  rw [List.all_eq_false]
  exact ⟨j, List.mem_range.2 hj, by rw [h]; simp⟩
theorem fits_yes {keys : List ByteArray} {own : List Mo} {C : List Int} (h : ∀ j, j < own.length → fitJ keys own C j = true) : fitsS keys own C = true := by
  unfold fitsS
  rw [List.all_eq_true]
  exact fun j hj => h j (List.mem_range.1 hj)
theorem str_ne {x y : ByteArray} (h : x ≠ y) : (x.toList == y.toList) = false := by
  cases q : (x.toList == y.toList) with
  | false => rfl
  | true => exact absurd (toList_eq.1 q) h

set_option maxRecDepth 100000 in
set_option maxHeartbeats 4000000 in
theorem l4Fits_any (inn : Bool) (k : Nat) (hk : k < 8) (ks os : Value) (keys : List ByteArray) (own : List Mo) (ep : Int) (init tag : ByteArray) (w : World) (hK : SRow w ks keys) (hO : MRow w os own) (hl : keys.length = 15) (hsm : ∀ o ∈ own, o.2.size ≤ maxLen) :
    Calls Tryz.prog 49 #[.agg (memC inn (k : Int) ks os ep init tag)] w fun e w' => e = .returned (.bool (fitsS keys own (chainOf (leafOf (k : Int))))) ∧ Below w.heap.size w w' := by
  have HK := hide hK
  have HO := hide hO
  have HL := hide hl
  have HSA := hide hsm
  obtain ⟨a1, p1, rfl, _, _, g3⟩ := hK.form
  obtain ⟨a2, p2, rfl, g4, g5, _⟩ := hO
  rw [hl] at HK g3 ⊢
  obtain ⟨ad, rfl, _⟩ := g3 0 (by omega)
  unfold maxLen at g5
  clear hK hsm hl g3
  have HLF : Hid (leafOf (k : Int) = ((7 + k : Nat) : Int)) := by show _ = _; unfold leafOf; rw [if_pos (by omega)]; omega
  have HCH : Hid (chainOf (leafOf (k : Int)) = ((7 + k : Nat) : Int) :: upOf ((7 + k : Nat) : Int)) := by show _ = _; rw [HLF.out]; unfold chainOf; rw [if_pos (by omega)]
  have HU15 : Hid (∀ z ∈ upOf ((7 + k : Nat) : Int), 0 ≤ z ∧ z < 15) := by
    intro z hz
    rw [upOf_nat _ (by omega)] at hz
    obtain ⟨q, hq, rfl⟩ := List.mem_map.1 hz
    have := ups_lt (7 + k) (by omega) q hq
    omega
  have hlf0 : 7 + k < 15 := by omega
  obtain ⟨lf, hlf⟩ : ∃ lf, lf = 7 + k := ⟨_, rfl⟩
  rw [← hlf] at HLF HCH HU15 hlf0
  clear hlf
  have A0 := hide (Blk.new w 35 (memC inn (k : Int) (.slice (some ad) 15 p1) (.slice a2 own.length p2) ep init tag))
  have HB0 : Hid (Below w.heap.size w (w.alloc (.cells (memC inn (k : Int) (.slice (some ad) 15 p1) (.slice a2 own.length p2) ep init tag) 35))) := (Below.refl _ _).alloc (Nat.le_refl _) _
  go_enter Tryz.func49, Tryz.ntmps49
  go_wp2_with fail
  refine (sTreLeaf_any _ _).mono ?_
  rw [HLF.out]
  rintro e wz ⟨rfl, rfl⟩
  go_wp2_with fail
  go_loopw [4, 5] (fun i b wr => ∃ j : Nat, j ≤ own.length ∧ i = .int .i64 (j : Int) ∧ Hid (∀ z, z < j → fitJ keys own (chainOf (leafOf (k : Int))) z = true) ∧ Blk wr w.heap.size 35 (memC inn (k : Int) (.slice (some ad) 15 p1) (.slice a2 own.length p2) ep init tag) ∧ Hid (Below w.heap.size w wr)) (fun i _ _ => own.length - (intOf i).toNat)
  case atStart => exact ⟨0, by omega, rfl, fun z hz => by omega, unhide A0, HB0⟩
  case round =>
    clear A0 HB0
    obtain ⟨j, hjl, rfl, hN, a0, hL⟩ := hrel
    have c3 := a0.cell 3
    simp only [List.getElem?_toArray, List.getElem?_cons_succ, List.getElem?_cons_zero] at c3
    by_cases hlt : j < own.length
    · have hlt2 : (j : Int) < (own.length : Int) := by omega
      have i3 : IntKind.i64.wrap ((j : Int) + 1) = (j : Int) + 1 := by simp [IntKind.wrap, IntKind.bits, IntKind.signed]; omega
      have hjp : (j : Int) ≤ (p2 : Int) := by omega
      have hle := hL.out.size
      obtain ⟨ao', c1, q1, _, _, q2⟩ := (MRow.below (unhide HO) (unhide hL)).form
      simp only [Value.slice.injEq] at q1
      obtain ⟨rfl, _, rfl⟩ := q1
      obtain ⟨ax, rfl, hca, hcb⟩ := q2 j hlt
      clear q2
      have HNX : Hid (fitJ keys own (chainOf (leafOf (k : Int))) j = true → Hid (∀ z, z < j + 1 → fitJ keys own (chainOf (leafOf (k : Int))) z = true)) := fun q z hz => by
        by_cases e : z = j
        · subst e; exact q
        · exact hN.out z (by omega)
      have HNO : Hid (fitJ keys own (chainOf (leafOf (k : Int))) j = false → fitsS keys own (chainOf (leafOf (k : Int))) = false) := fun q => fits_no hlt q
      have HFD : Hid (fitJ keys own (chainOf (leafOf (k : Int))) j = (decide ((own.getD j noMo).1 ∈ (lf : Int) :: upOf (lf : Int)) && Kw.ok (own.getD j noMo).2 && decide (keys.getD (own.getD j noMo).1.toNat ByteArray.empty = mkKey (own.getD j noMo).2) && decide (secAt (own.take j) (own.getD j noMo).1 = ByteArray.empty))) := by show _ = _; unfold fitJ; rw [HCH.out]
      have HSM : Hid ((own.getD j noMo).2.size ≤ maxLen) := HSA.out _ (getM_mem hlt)
      generalize own.getD j noMo = y at *
      obtain ⟨nd, sec⟩ := y
      dsimp only at hca hcb HFD HSM
      obtain ⟨W, hW⟩ : ∃ W, wr.alloc (.cells #[.int .i64 nd, .string sec] 60) = W := ⟨_, rfl⟩
      have A : Hid (Blk W.drew w.heap.size 35 (memC inn (k : Int) (.slice (some ad) 15 p1) (.slice (some ax) own.length p2) ep init tag)) := by rw [← hW]; exact a0.alloc _
      have B : Hid (Blk W.drew wr.heap.size 60 #[.int .i64 nd, .string sec]) := by rw [← hW]; exact Blk.new wr _ _
      have HB : Hid (Below w.heap.size w W.drew) := by rw [← hW]; exact (hL.out.alloc hle _).drew
      clear hN hL a0
      by_cases hnl : nd = (lf : Int)
      · -- of its own place
        subst hnl
        have hq15 : lf < 15 := hlf0
        have hq2 : (lf : Int) < 15 := by omega
        obtain ⟨nq, hnq⟩ : ∃ nq, nq = lf := ⟨_, rfl⟩
        have HNQ : Hid (((lf : Nat) : Int).toNat = nq) := by show _ = _; rw [hnq]; rfl
        have HIN : Hid (((lf : Nat) : Int) ∈ ((lf : Nat) : Int) :: upOf ((lf : Nat) : Int)) := List.mem_cons_self ..
        subst hnq
        cases hok : Kw.ok sec with
        | false =>
          have HOKS := hide hok
          have HE : Hid (fitsS keys own (chainOf (leafOf (k : Int))) = false) := HNO.out (by rw [HFD.out]; rw [hok]; simp)
          clear hok
          go_wp2_with fail
          try rw [hW]
          refine wp_region_later (by kernel_rfl) ?_
          refine later_take (i := 0) (d := 21) (v := ?_) (by kernel_rfl) (by kernel_rfl) (by kernel_rfl) (by kernel_rfl) (fun _ _ _ h => h) (fun oi hoi => ?_) ?_
          rotate_left
          · simp at hoi
            subst hoi
            refine ⟨by rfl, fun w' hw' => ?_⟩
            go_simp
            all_goals rfl
          try simp only [Act.put, List.setIfInBounds_toArray, List.set_cons_zero, List.set_cons_succ]
          refine later_take (i := 1) (d := 22) (v := ?_) (by kernel_rfl) (by kernel_rfl) (by kernel_rfl) (by kernel_rfl) (fun _ _ _ h => h) (fun oi hoi => ?_) ?_
          rotate_left
          · simp at hoi
            subst hoi
            refine ⟨by rfl, fun w' hw' => ?_⟩
            have hx := Blk.below (unhide B) hw'
            have x0 := hx.cell 0
            simp only [List.getElem?_toArray, List.getElem?_cons_zero] at x0
            go_simp
            all_goals rfl
          try simp only [Act.put, List.setIfInBounds_toArray, List.set_cons_zero, List.set_cons_succ]
          refine later_take (i := 2) (d := 23) (v := ?_) (by kernel_rfl) (by kernel_rfl) (by kernel_rfl) (by kernel_rfl) (fun _ _ _ h => h) (fun oi hoi => ?_) ?_
          rotate_left
          · simp at hoi
            subst hoi
            refine ⟨by rfl, fun w' hw' => ?_⟩
            go_simp
            all_goals rfl
          try simp only [Act.put, List.setIfInBounds_toArray, List.set_cons_zero, List.set_cons_succ]
          refine later_take (i := 3) (d := 24) (v := ?_) (by kernel_rfl) (by kernel_rfl) (by kernel_rfl) (by kernel_rfl) (fun _ _ _ h => h) (fun oi hoi => ?_) ?_
          rotate_left
          · simp at hoi
            subst hoi
            refine ⟨by rfl, fun w' hw' => ?_⟩
            go_simp
            all_goals rfl
          try simp only [Act.put, List.setIfInBounds_toArray, List.set_cons_zero, List.set_cons_succ]
          refine later_take (i := 4) (d := 25) (v := ?_) (by kernel_rfl) (by kernel_rfl) (by kernel_rfl) (by kernel_rfl) (fun _ _ _ h => h) (fun oi hoi => ?_) ?_
          rotate_left
          · simp at hoi
            subst hoi
            refine ⟨by rfl, fun w' hw' => ?_⟩
            go_simp
            all_goals rfl
          try simp only [Act.put, List.setIfInBounds_toArray, List.set_cons_zero, List.set_cons_succ]
          refine later_skip (i := 5) (d := 26) (by kernel_rfl) (by kernel_rfl) (by kernel_rfl) (by kernel_rfl) (fun _ _ _ h => h) (by rfl) ?_
          try simp only [Act.put, List.setIfInBounds_toArray, List.set_cons_zero, List.set_cons_succ]
          refine later_skip (i := 6) (d := 27) (by kernel_rfl) (by kernel_rfl) (by kernel_rfl) (by kernel_rfl) (fun _ _ _ h => h) (by rfl) ?_
          try simp only [Act.put, List.setIfInBounds_toArray, List.set_cons_zero, List.set_cons_succ]
          refine later_skip (i := 7) (d := 28) (by kernel_rfl) (by kernel_rfl) (by kernel_rfl) (by kernel_rfl) (fun _ _ _ h => h) (by rfl) ?_
          try simp only [Act.put, List.setIfInBounds_toArray, List.set_cons_zero, List.set_cons_succ]
          refine later_skip (i := 8) (d := 29) (by kernel_rfl) (by kernel_rfl) (by kernel_rfl) (by kernel_rfl) (fun _ _ _ h => h) (by rfl) ?_
          try simp only [Act.put, List.setIfInBounds_toArray, List.set_cons_zero, List.set_cons_succ]
          refine later_skip (i := 9) (d := 30) (by kernel_rfl) (by kernel_rfl) (by kernel_rfl) (by kernel_rfl) (fun _ _ _ h => h) (by rfl) ?_
          try simp only [Act.put, List.setIfInBounds_toArray, List.set_cons_zero, List.set_cons_succ]
          refine later_skip (i := 10) (d := 31) (by kernel_rfl) (by kernel_rfl) (by kernel_rfl) (by kernel_rfl) (fun _ _ _ h => h) (by rfl) ?_
          try simp only [Act.put, List.setIfInBounds_toArray, List.set_cons_zero, List.set_cons_succ]
          refine later_take (i := 11) (d := 32) (v := ?_) (by kernel_rfl) (by kernel_rfl) (by kernel_rfl) (by kernel_rfl) (fun _ _ _ h => h) (fun oi hoi => ?_) ?_
          rotate_left
          · simp at hoi
            subst hoi
            refine ⟨by rfl, fun w' hw' => ?_⟩
            go_simp
            all_goals rfl
          try simp only [Act.put, List.setIfInBounds_toArray, List.set_cons_zero, List.set_cons_succ]
          refine later_take (i := 12) (d := 33) (v := ?_) (by kernel_rfl) (by kernel_rfl) (by kernel_rfl) (by kernel_rfl) (fun _ _ _ h => h) (fun oi hoi => ?_) ?_
          rotate_left
          · simp at hoi
            subst hoi
            refine ⟨by rfl, fun w' hw' => ?_⟩
            go_simp
            all_goals rfl
          try simp only [Act.put, List.setIfInBounds_toArray, List.set_cons_zero, List.set_cons_succ]
          refine later_take (i := 13) (d := 34) (v := ?_) (by kernel_rfl) (by kernel_rfl) (by kernel_rfl) (by kernel_rfl) (fun _ _ _ h => h) (fun oi hoi => ?_) ?_
          rotate_left
          · simp at hoi
            subst hoi
            refine ⟨by rfl, fun w' hw' => ?_⟩
            go_simp
            all_goals rfl
          try simp only [Act.put, List.setIfInBounds_toArray, List.set_cons_zero, List.set_cons_succ]
          refine later_take (i := 14) (d := 35) (v := ?_) (by kernel_rfl) (by kernel_rfl) (by kernel_rfl) (by kernel_rfl) (fun _ _ _ h => h) (fun oi hoi => ?_) ?_
          rotate_left
          · simp at hoi
            subst hoi
            refine ⟨by rfl, fun w' hw' => ?_⟩
            have hx := Blk.below (unhide B) hw'
            have x1 := hx.cell 1
            simp only [List.getElem?_toArray, List.getElem?_cons_succ, List.getElem?_cons_zero] at x1
            go_simp
            all_goals rfl
          try simp only [Act.put, List.setIfInBounds_toArray, List.set_cons_zero, List.set_cons_succ]
          refine later_one (i := 15) (by kernel_rfl) (fun oi K hoi hK => ?_)
          simp at hoi
          subst hoi
          refine ⟨by rfl, ?_⟩
          go_simp
          refine (sSecOk_any sec _ HSM.out).mono ?_
          rw [HOKS.out]
          rintro e w5 ⟨rfl, hb⟩
          go_simp
          refine hK.out _ _ hb ?_
          clear hK
          replace A := hide ((unhide A).below hb)
          replace B := hide ((unhide B).below hb)
          replace HB := hide (HB.out.trans (hb.mono HB.out.size))
          clear hb
          try simp only [Act.put, List.setIfInBounds_toArray, List.set_cons_zero, List.set_cons_succ]
          refine later_take (i := 16) (d := 37) (v := ?_) (by kernel_rfl) (by kernel_rfl) (by kernel_rfl) (by kernel_rfl) (fun _ _ _ h => h) (fun oi hoi => ?_) ?_
          rotate_left
          · simp at hoi
            subst hoi
            refine ⟨by rfl, fun w' hw' => ?_⟩
            go_simp
            all_goals rfl
          try simp only [Act.put, List.setIfInBounds_toArray, List.set_cons_zero, List.set_cons_succ]
          refine later_take (i := 17) (d := 38) (v := ?_) (by kernel_rfl) (by kernel_rfl) (by kernel_rfl) (by kernel_rfl) (fun _ _ _ h => h) (fun oi hoi => ?_) ?_
          rotate_left
          · simp at hoi
            subst hoi
            refine ⟨by rfl, fun w' hw' => ?_⟩
            go_simp
            all_goals rfl
          try simp only [Act.put, List.setIfInBounds_toArray, List.set_cons_zero, List.set_cons_succ]
          refine later_take (i := 18) (d := 39) (v := ?_) (by kernel_rfl) (by kernel_rfl) (by kernel_rfl) (by kernel_rfl) (fun _ _ _ h => h) (fun oi hoi => ?_) ?_
          rotate_left
          · simp at hoi
            subst hoi
            refine ⟨by rfl, fun w' hw' => ?_⟩
            go_simp
            all_goals rfl
          try simp only [Act.put, List.setIfInBounds_toArray, List.set_cons_zero, List.set_cons_succ]
          refine later_skip (i := 19) (d := 40) (by kernel_rfl) (by kernel_rfl) (by kernel_rfl) (by kernel_rfl) (fun _ _ _ h => h) (by rfl) ?_
          try simp only [Act.put, List.setIfInBounds_toArray, List.set_cons_zero, List.set_cons_succ]
          refine later_skip (i := 20) (d := 41) (by kernel_rfl) (by kernel_rfl) (by kernel_rfl) (by kernel_rfl) (fun _ _ _ h => h) (by rfl) ?_
          try simp only [Act.put, List.setIfInBounds_toArray, List.set_cons_zero, List.set_cons_succ]
          refine later_skip (i := 21) (d := 42) (by kernel_rfl) (by kernel_rfl) (by kernel_rfl) (by kernel_rfl) (fun _ _ _ h => h) (by rfl) ?_
          try simp only [Act.put, List.setIfInBounds_toArray, List.set_cons_zero, List.set_cons_succ]
          refine later_skip (i := 22) (d := 43) (by kernel_rfl) (by kernel_rfl) (by kernel_rfl) (by kernel_rfl) (fun _ _ _ h => h) (by rfl) ?_
          try simp only [Act.put, List.setIfInBounds_toArray, List.set_cons_zero, List.set_cons_succ]
          refine later_skip (i := 23) (d := 44) (by kernel_rfl) (by kernel_rfl) (by kernel_rfl) (by kernel_rfl) (fun _ _ _ h => h) (by rfl) ?_
          try simp only [Act.put, List.setIfInBounds_toArray, List.set_cons_zero, List.set_cons_succ]
          refine later_skip (i := 24) (d := 45) (by kernel_rfl) (by kernel_rfl) (by kernel_rfl) (by kernel_rfl) (fun _ _ _ h => h) (by rfl) ?_
          try simp only [Act.put, List.setIfInBounds_toArray, List.set_cons_zero, List.set_cons_succ]
          refine later_skip (i := 25) (d := 46) (by kernel_rfl) (by kernel_rfl) (by kernel_rfl) (by kernel_rfl) (fun _ _ _ h => h) (by rfl) ?_
          try simp only [Act.put, List.setIfInBounds_toArray, List.set_cons_zero, List.set_cons_succ]
          refine later_skip (i := 26) (d := 47) (by kernel_rfl) (by kernel_rfl) (by kernel_rfl) (by kernel_rfl) (fun _ _ _ h => h) (by rfl) ?_
          try simp only [Act.put, List.setIfInBounds_toArray, List.set_cons_zero, List.set_cons_succ]
          refine later_skip (i := 27) (d := 48) (by kernel_rfl) (by kernel_rfl) (by kernel_rfl) (by kernel_rfl) (fun _ _ _ h => h) (by rfl) ?_
          try simp only [Act.put, List.setIfInBounds_toArray, List.set_cons_zero, List.set_cons_succ]
          refine later_skip (i := 28) (d := 49) (by kernel_rfl) (by kernel_rfl) (by kernel_rfl) (by kernel_rfl) (fun _ _ _ h => h) (by rfl) ?_
          try simp only [Act.put, List.setIfInBounds_toArray, List.set_cons_zero, List.set_cons_succ]
          refine later_skip (i := 29) (d := 50) (by kernel_rfl) (by kernel_rfl) (by kernel_rfl) (by kernel_rfl) (fun _ _ _ h => h) (by rfl) ?_
          try simp only [Act.put, List.setIfInBounds_toArray, List.set_cons_zero, List.set_cons_succ]
          refine later_take (i := 30) (d := 51) (v := ?_) (by kernel_rfl) (by kernel_rfl) (by kernel_rfl) (by kernel_rfl) (fun _ _ _ h => h) (fun oi hoi => ?_) ?_
          rotate_left
          · simp at hoi
            subst hoi
            refine ⟨by rfl, fun w' hw' => ?_⟩
            go_simp
            all_goals rfl
          try simp only [Act.put, List.setIfInBounds_toArray, List.set_cons_zero, List.set_cons_succ]
          refine later_take (i := 31) (d := 52) (v := ?_) (by kernel_rfl) (by kernel_rfl) (by kernel_rfl) (by kernel_rfl) (fun _ _ _ h => h) (fun oi hoi => ?_) ?_
          rotate_left
          · simp at hoi
            subst hoi
            refine ⟨by rfl, fun w' hw' => ?_⟩
            go_simp
            all_goals rfl
          try simp only [Act.put, List.setIfInBounds_toArray, List.set_cons_zero, List.set_cons_succ]
          refine later_skip (i := 32) (d := 53) (by kernel_rfl) (by kernel_rfl) (by kernel_rfl) (by kernel_rfl) (fun _ _ _ h => h) (by rfl) ?_
          try simp only [Act.put, List.setIfInBounds_toArray, List.set_cons_zero, List.set_cons_succ]
          refine later_skip (i := 33) (d := 54) (by kernel_rfl) (by kernel_rfl) (by kernel_rfl) (by kernel_rfl) (fun _ _ _ h => h) (by rfl) ?_
          try simp only [Act.put, List.setIfInBounds_toArray, List.set_cons_zero, List.set_cons_succ]
          refine later_skip (i := 34) (d := 55) (by kernel_rfl) (by kernel_rfl) (by kernel_rfl) (by kernel_rfl) (fun _ _ _ h => h) (by rfl) ?_
          try simp only [Act.put, List.setIfInBounds_toArray, List.set_cons_zero, List.set_cons_succ]
          refine later_skip (i := 35) (d := 56) (by kernel_rfl) (by kernel_rfl) (by kernel_rfl) (by kernel_rfl) (fun _ _ _ h => h) (by rfl) ?_
          try simp only [Act.put, List.setIfInBounds_toArray, List.set_cons_zero, List.set_cons_succ]
          refine later_skip (i := 36) (d := 57) (by kernel_rfl) (by kernel_rfl) (by kernel_rfl) (by kernel_rfl) (fun _ _ _ h => h) (by rfl) ?_
          try simp only [Act.put, List.setIfInBounds_toArray, List.set_cons_zero, List.set_cons_succ]
          refine later_skip (i := 37) (d := 58) (by kernel_rfl) (by kernel_rfl) (by kernel_rfl) (by kernel_rfl) (fun _ _ _ h => h) (by rfl) ?_
          try simp only [Act.put, List.setIfInBounds_toArray, List.set_cons_zero, List.set_cons_succ]
          refine later_skip (i := 38) (d := 59) (by kernel_rfl) (by kernel_rfl) (by kernel_rfl) (by kernel_rfl) (fun _ _ _ h => h) (by rfl) ?_
          try simp only [Act.put, List.setIfInBounds_toArray, List.set_cons_zero, List.set_cons_succ]
          refine later_skip (i := 39) (d := 60) (by kernel_rfl) (by kernel_rfl) (by kernel_rfl) (by kernel_rfl) (fun _ _ _ h => h) (by rfl) ?_
          try simp only [Act.put, List.setIfInBounds_toArray, List.set_cons_zero, List.set_cons_succ]
          refine later_skip (i := 40) (d := 61) (by kernel_rfl) (by kernel_rfl) (by kernel_rfl) (by kernel_rfl) (fun _ _ _ h => h) (by rfl) ?_
          try simp only [Act.put, List.setIfInBounds_toArray, List.set_cons_zero, List.set_cons_succ]
          refine later_take (i := 41) (d := 62) (v := ?_) (by kernel_rfl) (by kernel_rfl) (by kernel_rfl) (by kernel_rfl) (fun _ _ _ h => h) (fun oi hoi => ?_) ?_
          rotate_left
          · simp at hoi
            subst hoi
            refine ⟨by rfl, fun w' hw' => ?_⟩
            go_simp
            all_goals rfl
          try simp only [Act.put, List.setIfInBounds_toArray, List.set_cons_zero, List.set_cons_succ]
          refine later_done (by kernel_rfl) ?_ _
          go_wp2_with fail
          go_ret
          exact ⟨ret_bool' HE.out.symm, unhide HB⟩
        | true =>
          have HOKS := hide hok
          clear hok
          obtain ⟨ky, hky⟩ : ∃ ky, keys.getD nq ByteArray.empty = ky := ⟨_, rfl⟩
          have HKY := hide hky
          by_cases hkk : ky = mkKey sec
          · obtain ⟨ah, hah⟩ : ∃ ah, secAt (own.take j) (nq : Int) = ah := ⟨_, rfl⟩
            have HAH := hide hah
            by_cases hae : ah = ByteArray.empty
            · have HFJ : Hid (fitJ keys own (chainOf (leafOf (k : Int))) j = true) := by show _ = _; rw [HFD.out, HNQ.out, hky, hkk, hah, hae, HOKS.out, decide_eq_true HIN.out]; simp
              subst hae
              have hat : (ByteArray.empty).toList = [] := nil_text
              subst hkk
              clear hky hah
              go_wp2_with fail
              try rw [hW]
              refine wp_region_later (by kernel_rfl) ?_
              refine later_take (i := 0) (d := 21) (v := ?_) (by kernel_rfl) (by kernel_rfl) (by kernel_rfl) (by kernel_rfl) (fun _ _ _ h => h) (fun oi hoi => ?_) ?_
              rotate_left
              · simp at hoi
                subst hoi
                refine ⟨by rfl, fun w' hw' => ?_⟩
                go_simp
                all_goals rfl
              try simp only [Act.put, List.setIfInBounds_toArray, List.set_cons_zero, List.set_cons_succ]
              refine later_take (i := 1) (d := 22) (v := ?_) (by kernel_rfl) (by kernel_rfl) (by kernel_rfl) (by kernel_rfl) (fun _ _ _ h => h) (fun oi hoi => ?_) ?_
              rotate_left
              · simp at hoi
                subst hoi
                refine ⟨by rfl, fun w' hw' => ?_⟩
                have hx := Blk.below (unhide B) hw'
                have x0 := hx.cell 0
                simp only [List.getElem?_toArray, List.getElem?_cons_zero] at x0
                go_simp
                all_goals rfl
              try simp only [Act.put, List.setIfInBounds_toArray, List.set_cons_zero, List.set_cons_succ]
              refine later_take (i := 2) (d := 23) (v := ?_) (by kernel_rfl) (by kernel_rfl) (by kernel_rfl) (by kernel_rfl) (fun _ _ _ h => h) (fun oi hoi => ?_) ?_
              rotate_left
              · simp at hoi
                subst hoi
                refine ⟨by rfl, fun w' hw' => ?_⟩
                go_simp
                all_goals rfl
              try simp only [Act.put, List.setIfInBounds_toArray, List.set_cons_zero, List.set_cons_succ]
              refine later_take (i := 3) (d := 24) (v := ?_) (by kernel_rfl) (by kernel_rfl) (by kernel_rfl) (by kernel_rfl) (fun _ _ _ h => h) (fun oi hoi => ?_) ?_
              rotate_left
              · simp at hoi
                subst hoi
                refine ⟨by rfl, fun w' hw' => ?_⟩
                go_simp
                all_goals rfl
              try simp only [Act.put, List.setIfInBounds_toArray, List.set_cons_zero, List.set_cons_succ]
              refine later_take (i := 4) (d := 25) (v := ?_) (by kernel_rfl) (by kernel_rfl) (by kernel_rfl) (by kernel_rfl) (fun _ _ _ h => h) (fun oi hoi => ?_) ?_
              rotate_left
              · simp at hoi
                subst hoi
                refine ⟨by rfl, fun w' hw' => ?_⟩
                go_simp
                all_goals rfl
              try simp only [Act.put, List.setIfInBounds_toArray, List.set_cons_zero, List.set_cons_succ]
              refine later_skip (i := 5) (d := 26) (by kernel_rfl) (by kernel_rfl) (by kernel_rfl) (by kernel_rfl) (fun _ _ _ h => h) (by rfl) ?_
              try simp only [Act.put, List.setIfInBounds_toArray, List.set_cons_zero, List.set_cons_succ]
              refine later_skip (i := 6) (d := 27) (by kernel_rfl) (by kernel_rfl) (by kernel_rfl) (by kernel_rfl) (fun _ _ _ h => h) (by rfl) ?_
              try simp only [Act.put, List.setIfInBounds_toArray, List.set_cons_zero, List.set_cons_succ]
              refine later_skip (i := 7) (d := 28) (by kernel_rfl) (by kernel_rfl) (by kernel_rfl) (by kernel_rfl) (fun _ _ _ h => h) (by rfl) ?_
              try simp only [Act.put, List.setIfInBounds_toArray, List.set_cons_zero, List.set_cons_succ]
              refine later_skip (i := 8) (d := 29) (by kernel_rfl) (by kernel_rfl) (by kernel_rfl) (by kernel_rfl) (fun _ _ _ h => h) (by rfl) ?_
              try simp only [Act.put, List.setIfInBounds_toArray, List.set_cons_zero, List.set_cons_succ]
              refine later_skip (i := 9) (d := 30) (by kernel_rfl) (by kernel_rfl) (by kernel_rfl) (by kernel_rfl) (fun _ _ _ h => h) (by rfl) ?_
              try simp only [Act.put, List.setIfInBounds_toArray, List.set_cons_zero, List.set_cons_succ]
              refine later_skip (i := 10) (d := 31) (by kernel_rfl) (by kernel_rfl) (by kernel_rfl) (by kernel_rfl) (fun _ _ _ h => h) (by rfl) ?_
              try simp only [Act.put, List.setIfInBounds_toArray, List.set_cons_zero, List.set_cons_succ]
              refine later_take (i := 11) (d := 32) (v := ?_) (by kernel_rfl) (by kernel_rfl) (by kernel_rfl) (by kernel_rfl) (fun _ _ _ h => h) (fun oi hoi => ?_) ?_
              rotate_left
              · simp at hoi
                subst hoi
                refine ⟨by rfl, fun w' hw' => ?_⟩
                go_simp
                all_goals rfl
              try simp only [Act.put, List.setIfInBounds_toArray, List.set_cons_zero, List.set_cons_succ]
              refine later_take (i := 12) (d := 33) (v := ?_) (by kernel_rfl) (by kernel_rfl) (by kernel_rfl) (by kernel_rfl) (fun _ _ _ h => h) (fun oi hoi => ?_) ?_
              rotate_left
              · simp at hoi
                subst hoi
                refine ⟨by rfl, fun w' hw' => ?_⟩
                go_simp
                all_goals rfl
              try simp only [Act.put, List.setIfInBounds_toArray, List.set_cons_zero, List.set_cons_succ]
              refine later_take (i := 13) (d := 34) (v := ?_) (by kernel_rfl) (by kernel_rfl) (by kernel_rfl) (by kernel_rfl) (fun _ _ _ h => h) (fun oi hoi => ?_) ?_
              rotate_left
              · simp at hoi
                subst hoi
                refine ⟨by rfl, fun w' hw' => ?_⟩
                go_simp
                all_goals rfl
              try simp only [Act.put, List.setIfInBounds_toArray, List.set_cons_zero, List.set_cons_succ]
              refine later_take (i := 14) (d := 35) (v := ?_) (by kernel_rfl) (by kernel_rfl) (by kernel_rfl) (by kernel_rfl) (fun _ _ _ h => h) (fun oi hoi => ?_) ?_
              rotate_left
              · simp at hoi
                subst hoi
                refine ⟨by rfl, fun w' hw' => ?_⟩
                have hx := Blk.below (unhide B) hw'
                have x1 := hx.cell 1
                simp only [List.getElem?_toArray, List.getElem?_cons_succ, List.getElem?_cons_zero] at x1
                go_simp
                all_goals rfl
              try simp only [Act.put, List.setIfInBounds_toArray, List.set_cons_zero, List.set_cons_succ]
              refine later_one (i := 15) (by kernel_rfl) (fun oi K hoi hK => ?_)
              simp at hoi
              subst hoi
              refine ⟨by rfl, ?_⟩
              go_simp
              refine (sSecOk_any sec _ HSM.out).mono ?_
              rw [HOKS.out]
              rintro e w5 ⟨rfl, hb⟩
              go_simp
              refine hK.out _ _ hb ?_
              clear hK
              replace A := hide ((unhide A).below hb)
              replace B := hide ((unhide B).below hb)
              replace HB := hide (HB.out.trans (hb.mono HB.out.size))
              clear hb
              try simp only [Act.put, List.setIfInBounds_toArray, List.set_cons_zero, List.set_cons_succ]
              refine later_take (i := 16) (d := 37) (v := ?_) (by kernel_rfl) (by kernel_rfl) (by kernel_rfl) (by kernel_rfl) (fun _ _ _ h => h) (fun oi hoi => ?_) ?_
              rotate_left
              · simp at hoi
                subst hoi
                refine ⟨by rfl, fun w' hw' => ?_⟩
                go_simp
                all_goals rfl
              try simp only [Act.put, List.setIfInBounds_toArray, List.set_cons_zero, List.set_cons_succ]
              refine later_take (i := 17) (d := 38) (v := ?_) (by kernel_rfl) (by kernel_rfl) (by kernel_rfl) (by kernel_rfl) (fun _ _ _ h => h) (fun oi hoi => ?_) ?_
              rotate_left
              · simp at hoi
                subst hoi
                refine ⟨by rfl, fun w' hw' => ?_⟩
                go_simp
                all_goals rfl
              try simp only [Act.put, List.setIfInBounds_toArray, List.set_cons_zero, List.set_cons_succ]
              refine later_take (i := 18) (d := 39) (v := ?_) (by kernel_rfl) (by kernel_rfl) (by kernel_rfl) (by kernel_rfl) (fun _ _ _ h => h) (fun oi hoi => ?_) ?_
              rotate_left
              · simp at hoi
                subst hoi
                refine ⟨by rfl, fun w' hw' => ?_⟩
                go_simp
                all_goals rfl
              try simp only [Act.put, List.setIfInBounds_toArray, List.set_cons_zero, List.set_cons_succ]
              refine later_take (i := 19) (d := 40) (v := ?_) (by kernel_rfl) (by kernel_rfl) (by kernel_rfl) (by kernel_rfl) (fun _ _ _ h => h) (fun oi hoi => ?_) ?_
              rotate_left
              · simp at hoi
                subst hoi
                refine ⟨by rfl, fun w' hw' => ?_⟩
                go_simp
                all_goals rfl
              try simp only [Act.put, List.setIfInBounds_toArray, List.set_cons_zero, List.set_cons_succ]
              refine later_take (i := 20) (d := 41) (v := ?_) (by kernel_rfl) (by kernel_rfl) (by kernel_rfl) (by kernel_rfl) (fun _ _ _ h => h) (fun oi hoi => ?_) ?_
              rotate_left
              · simp at hoi
                subst hoi
                refine ⟨by rfl, fun w' hw' => ?_⟩
                go_simp
                all_goals rfl
              try simp only [Act.put, List.setIfInBounds_toArray, List.set_cons_zero, List.set_cons_succ]
              refine later_take (i := 21) (d := 42) (v := ?_) (by kernel_rfl) (by kernel_rfl) (by kernel_rfl) (by kernel_rfl) (fun _ _ _ h => h) (fun oi hoi => ?_) ?_
              rotate_left
              · simp at hoi
                subst hoi
                refine ⟨by rfl, fun w' hw' => ?_⟩
                have hx := Blk.below (unhide A) hw'
                have x2 := hx.cell 2
                simp only [List.getElem?_toArray, List.getElem?_cons_succ, List.getElem?_cons_zero] at x2
                go_simp
                all_goals rfl
              try simp only [Act.put, List.setIfInBounds_toArray, List.set_cons_zero, List.set_cons_succ]
              refine later_take (i := 22) (d := 43) (v := ?_) (by kernel_rfl) (by kernel_rfl) (by kernel_rfl) (by kernel_rfl) (fun _ _ _ h => h) (fun oi hoi => ?_) ?_
              rotate_left
              · simp at hoi
                subst hoi
                refine ⟨by rfl, fun w' hw' => ?_⟩
                go_simp
                all_goals rfl
              try simp only [Act.put, List.setIfInBounds_toArray, List.set_cons_zero, List.set_cons_succ]
              refine later_take (i := 23) (d := 44) (v := ?_) (by kernel_rfl) (by kernel_rfl) (by kernel_rfl) (by kernel_rfl) (fun _ _ _ h => h) (fun oi hoi => ?_) ?_
              rotate_left
              · simp at hoi
                subst hoi
                refine ⟨by rfl, fun w' hw' => ?_⟩
                have hx := Blk.below (unhide B) hw'
                have x0 := hx.cell 0
                simp only [List.getElem?_toArray, List.getElem?_cons_zero] at x0
                go_simp
                all_goals rfl
              try simp only [Act.put, List.setIfInBounds_toArray, List.set_cons_zero, List.set_cons_succ]
              refine later_take (i := 24) (d := 45) (v := ?_) (by kernel_rfl) (by kernel_rfl) (by kernel_rfl) (by kernel_rfl) (fun _ _ _ h => h) (fun oi hoi => ?_) ?_
              rotate_left
              · simp at hoi
                subst hoi
                refine ⟨by rfl, fun w' hw' => ?_⟩
                go_simp
                all_goals rfl
              try simp only [Act.put, List.setIfInBounds_toArray, List.set_cons_zero, List.set_cons_succ]
              refine later_take (i := 25) (d := 46) (v := ?_) (by kernel_rfl) (by kernel_rfl) (by kernel_rfl) (by kernel_rfl) (fun _ _ _ h => h) (fun oi hoi => ?_) ?_
              rotate_left
              · simp at hoi
                subst hoi
                refine ⟨by rfl, fun w' hw' => ?_⟩
                have hx := ((unhide HK).below ((unhide HB).trans (hw'.mono (unhide HB).size))).form
                obtain ⟨ax, cx, qx, _, _, qy⟩ := hx
                rw [HL.out] at qx qy
                simp only [Value.slice.injEq] at qx
                obtain ⟨rfl, _, rfl⟩ := qx
                obtain ⟨a', ha', hcx⟩ := qy nq (by omega)
                cases ha'
                rw [HKY.out] at hcx
                go_simp
                all_goals rfl
              try simp only [Act.put, List.setIfInBounds_toArray, List.set_cons_zero, List.set_cons_succ]
              refine later_take (i := 26) (d := 47) (v := ?_) (by kernel_rfl) (by kernel_rfl) (by kernel_rfl) (by kernel_rfl) (fun _ _ _ h => h) (fun oi hoi => ?_) ?_
              rotate_left
              · simp at hoi
                subst hoi
                refine ⟨by rfl, fun w' hw' => ?_⟩
                go_simp
                all_goals rfl
              try simp only [Act.put, List.setIfInBounds_toArray, List.set_cons_zero, List.set_cons_succ]
              refine later_take (i := 27) (d := 48) (v := ?_) (by kernel_rfl) (by kernel_rfl) (by kernel_rfl) (by kernel_rfl) (fun _ _ _ h => h) (fun oi hoi => ?_) ?_
              rotate_left
              · simp at hoi
                subst hoi
                refine ⟨by rfl, fun w' hw' => ?_⟩
                have hx := Blk.below (unhide B) hw'
                have x1 := hx.cell 1
                simp only [List.getElem?_toArray, List.getElem?_cons_succ, List.getElem?_cons_zero] at x1
                go_simp
                all_goals rfl
              try simp only [Act.put, List.setIfInBounds_toArray, List.set_cons_zero, List.set_cons_succ]
              refine later_one (i := 28) (by kernel_rfl) (fun oi K hoi hK => ?_)
              simp at hoi
              subst hoi
              refine ⟨by rfl, ?_⟩
              go_simp
              refine (sMakKey_any sec _ HSM.out).mono ?_
              rintro e w6 ⟨rfl, hb⟩
              go_simp
              refine hK.out _ _ hb ?_
              clear hK
              replace A := hide ((unhide A).below hb)
              replace B := hide ((unhide B).below hb)
              replace HB := hide (HB.out.trans (hb.mono HB.out.size))
              clear hb
              try simp only [Act.put, List.setIfInBounds_toArray, List.set_cons_zero, List.set_cons_succ]
              refine later_take (i := 29) (d := 50) (v := ?_) (by kernel_rfl) (by kernel_rfl) (by kernel_rfl) (by kernel_rfl) (fun _ _ _ h => h) (fun oi hoi => ?_) ?_
              rotate_left
              · simp at hoi
                subst hoi
                refine ⟨by rfl, fun w' hw' => ?_⟩
                go_simp
                all_goals rfl
              try simp only [Act.put, List.setIfInBounds_toArray, List.set_cons_zero, List.set_cons_succ]
              refine later_take (i := 30) (d := 51) (v := ?_) (by kernel_rfl) (by kernel_rfl) (by kernel_rfl) (by kernel_rfl) (fun _ _ _ h => h) (fun oi hoi => ?_) ?_
              rotate_left
              · simp at hoi
                subst hoi
                refine ⟨by rfl, fun w' hw' => ?_⟩
                go_simp
                all_goals rfl
              try simp only [Act.put, List.setIfInBounds_toArray, List.set_cons_zero, List.set_cons_succ]
              refine later_take (i := 31) (d := 52) (v := ?_) (by kernel_rfl) (by kernel_rfl) (by kernel_rfl) (by kernel_rfl) (fun _ _ _ h => h) (fun oi hoi => ?_) ?_
              rotate_left
              · simp at hoi
                subst hoi
                refine ⟨by rfl, fun w' hw' => ?_⟩
                go_simp
                all_goals rfl
              try simp only [Act.put, List.setIfInBounds_toArray, List.set_cons_zero, List.set_cons_succ]
              refine later_take (i := 32) (d := 53) (v := ?_) (by kernel_rfl) (by kernel_rfl) (by kernel_rfl) (by kernel_rfl) (fun _ _ _ h => h) (fun oi hoi => ?_) ?_
              rotate_left
              · simp at hoi
                subst hoi
                refine ⟨by rfl, fun w' hw' => ?_⟩
                go_simp
                all_goals rfl
              try simp only [Act.put, List.setIfInBounds_toArray, List.set_cons_zero, List.set_cons_succ]
              refine later_take (i := 33) (d := 54) (v := ?_) (by kernel_rfl) (by kernel_rfl) (by kernel_rfl) (by kernel_rfl) (fun _ _ _ h => h) (fun oi hoi => ?_) ?_
              rotate_left
              · simp at hoi
                subst hoi
                refine ⟨by rfl, fun w' hw' => ?_⟩
                have hx := Blk.below (unhide A) hw'
                have x3 := hx.cell 3
                simp only [List.getElem?_toArray, List.getElem?_cons_succ, List.getElem?_cons_zero] at x3
                go_simp
                all_goals rfl
              try simp only [Act.put, List.setIfInBounds_toArray, List.set_cons_zero, List.set_cons_succ]
              refine later_take (i := 34) (d := 55) (v := ?_) (by kernel_rfl) (by kernel_rfl) (by kernel_rfl) (by kernel_rfl) (fun _ _ _ h => h) (fun oi hoi => ?_) ?_
              rotate_left
              · simp at hoi
                subst hoi
                refine ⟨by rfl, fun w' hw' => ?_⟩
                go_simp
                all_goals rfl
              try simp only [Act.put, List.setIfInBounds_toArray, List.set_cons_zero, List.set_cons_succ]
              refine later_take (i := 35) (d := 56) (v := ?_) (by kernel_rfl) (by kernel_rfl) (by kernel_rfl) (by kernel_rfl) (fun _ _ _ h => h) (fun oi hoi => ?_) ?_
              rotate_left
              · simp at hoi
                subst hoi
                refine ⟨by rfl, fun w' hw' => ?_⟩
                go_simp
                all_goals rfl
              try simp only [Act.put, List.setIfInBounds_toArray, List.set_cons_zero, List.set_cons_succ]
              refine later_take (i := 36) (d := 57) (v := ?_) (by kernel_rfl) (by kernel_rfl) (by kernel_rfl) (by kernel_rfl) (fun _ _ _ h => h) (fun oi hoi => ?_) ?_
              rotate_left
              · simp at hoi
                subst hoi
                refine ⟨by rfl, fun w' hw' => ?_⟩
                go_simp
                all_goals rfl
              try simp only [Act.put, List.setIfInBounds_toArray, List.set_cons_zero, List.set_cons_succ]
              refine later_take (i := 37) (d := 58) (v := ?_) (by kernel_rfl) (by kernel_rfl) (by kernel_rfl) (by kernel_rfl) (fun _ _ _ h => h) (fun oi hoi => ?_) ?_
              rotate_left
              · simp at hoi
                subst hoi
                refine ⟨by rfl, fun w' hw' => ?_⟩
                go_simp
                all_goals rfl
              try simp only [Act.put, List.setIfInBounds_toArray, List.set_cons_zero, List.set_cons_succ]
              refine later_take (i := 38) (d := 59) (v := ?_) (by kernel_rfl) (by kernel_rfl) (by kernel_rfl) (by kernel_rfl) (fun _ _ _ h => h) (fun oi hoi => ?_) ?_
              rotate_left
              · simp at hoi
                subst hoi
                refine ⟨by rfl, fun w' hw' => ?_⟩
                have hx := Blk.below (unhide B) hw'
                have x0 := hx.cell 0
                simp only [List.getElem?_toArray, List.getElem?_cons_zero] at x0
                go_simp
                all_goals rfl
              try simp only [Act.put, List.setIfInBounds_toArray, List.set_cons_zero, List.set_cons_succ]
              refine later_one (i := 39) (by kernel_rfl) (fun oi K hoi hK => ?_)
              simp at hoi
              subst hoi
              refine ⟨by rfl, ?_⟩
              go_simp
              refine (l4Own_any false 0 0 _ _ (own.take j) ⟨#[]⟩ ⟨#[]⟩ (nq : Int) _ (MRow.takeJ ((unhide HO).below (unhide HB)) hjl) ⟨_, _, _, rfl⟩).mono ?_
              rw [HAH.out]
              rintro e w7 ⟨rfl, hb⟩
              go_simp
              refine hK.out _ _ hb ?_
              clear hK
              replace A := hide ((unhide A).below hb)
              replace B := hide ((unhide B).below hb)
              replace HB := hide (HB.out.trans (hb.mono HB.out.size))
              clear hb
              try simp only [Act.put, List.setIfInBounds_toArray, List.set_cons_zero, List.set_cons_succ]
              refine later_take (i := 40) (d := 61) (v := ?_) (by kernel_rfl) (by kernel_rfl) (by kernel_rfl) (by kernel_rfl) (fun _ _ _ h => h) (fun oi hoi => ?_) ?_
              rotate_left
              · simp at hoi
                subst hoi
                refine ⟨by rfl, fun w' hw' => ?_⟩
                go_simp
                all_goals rfl
              try simp only [Act.put, List.setIfInBounds_toArray, List.set_cons_zero, List.set_cons_succ]
              refine later_take (i := 41) (d := 62) (v := ?_) (by kernel_rfl) (by kernel_rfl) (by kernel_rfl) (by kernel_rfl) (fun _ _ _ h => h) (fun oi hoi => ?_) ?_
              rotate_left
              · simp at hoi
                subst hoi
                refine ⟨by rfl, fun w' hw' => ?_⟩
                go_simp
                all_goals rfl
              try simp only [Act.put, List.setIfInBounds_toArray, List.set_cons_zero, List.set_cons_succ]
              refine later_done (by kernel_rfl) ?_ _
              go_wp2_with fail
              go_roundw
              case rel => exact ⟨j + 1, by omega, by simp, HNX.out HFJ.out, (unhide A), HB⟩
              case measure => simp [intOf]; omega
            · have HE : Hid (fitsS keys own (chainOf (leafOf (k : Int))) = false) := HNO.out (by rw [HFD.out]; rw [hah, decide_eq_false hae]; simp)
              have hat : ¬ ah.toList = [] := no_text hae
              have hat2 : ah.toList.isEmpty = false := by simpa using no_text hae
              subst hkk
              clear hky hah hae
              go_wp2_with fail
              try rw [hW]
              refine wp_region_later (by kernel_rfl) ?_
              refine later_take (i := 0) (d := 21) (v := ?_) (by kernel_rfl) (by kernel_rfl) (by kernel_rfl) (by kernel_rfl) (fun _ _ _ h => h) (fun oi hoi => ?_) ?_
              rotate_left
              · simp at hoi
                subst hoi
                refine ⟨by rfl, fun w' hw' => ?_⟩
                go_simp
                all_goals rfl
              try simp only [Act.put, List.setIfInBounds_toArray, List.set_cons_zero, List.set_cons_succ]
              refine later_take (i := 1) (d := 22) (v := ?_) (by kernel_rfl) (by kernel_rfl) (by kernel_rfl) (by kernel_rfl) (fun _ _ _ h => h) (fun oi hoi => ?_) ?_
              rotate_left
              · simp at hoi
                subst hoi
                refine ⟨by rfl, fun w' hw' => ?_⟩
                have hx := Blk.below (unhide B) hw'
                have x0 := hx.cell 0
                simp only [List.getElem?_toArray, List.getElem?_cons_zero] at x0
                go_simp
                all_goals rfl
              try simp only [Act.put, List.setIfInBounds_toArray, List.set_cons_zero, List.set_cons_succ]
              refine later_take (i := 2) (d := 23) (v := ?_) (by kernel_rfl) (by kernel_rfl) (by kernel_rfl) (by kernel_rfl) (fun _ _ _ h => h) (fun oi hoi => ?_) ?_
              rotate_left
              · simp at hoi
                subst hoi
                refine ⟨by rfl, fun w' hw' => ?_⟩
                go_simp
                all_goals rfl
              try simp only [Act.put, List.setIfInBounds_toArray, List.set_cons_zero, List.set_cons_succ]
              refine later_take (i := 3) (d := 24) (v := ?_) (by kernel_rfl) (by kernel_rfl) (by kernel_rfl) (by kernel_rfl) (fun _ _ _ h => h) (fun oi hoi => ?_) ?_
              rotate_left
              · simp at hoi
                subst hoi
                refine ⟨by rfl, fun w' hw' => ?_⟩
                go_simp
                all_goals rfl
              try simp only [Act.put, List.setIfInBounds_toArray, List.set_cons_zero, List.set_cons_succ]
              refine later_take (i := 4) (d := 25) (v := ?_) (by kernel_rfl) (by kernel_rfl) (by kernel_rfl) (by kernel_rfl) (fun _ _ _ h => h) (fun oi hoi => ?_) ?_
              rotate_left
              · simp at hoi
                subst hoi
                refine ⟨by rfl, fun w' hw' => ?_⟩
                go_simp
                all_goals rfl
              try simp only [Act.put, List.setIfInBounds_toArray, List.set_cons_zero, List.set_cons_succ]
              refine later_skip (i := 5) (d := 26) (by kernel_rfl) (by kernel_rfl) (by kernel_rfl) (by kernel_rfl) (fun _ _ _ h => h) (by rfl) ?_
              try simp only [Act.put, List.setIfInBounds_toArray, List.set_cons_zero, List.set_cons_succ]
              refine later_skip (i := 6) (d := 27) (by kernel_rfl) (by kernel_rfl) (by kernel_rfl) (by kernel_rfl) (fun _ _ _ h => h) (by rfl) ?_
              try simp only [Act.put, List.setIfInBounds_toArray, List.set_cons_zero, List.set_cons_succ]
              refine later_skip (i := 7) (d := 28) (by kernel_rfl) (by kernel_rfl) (by kernel_rfl) (by kernel_rfl) (fun _ _ _ h => h) (by rfl) ?_
              try simp only [Act.put, List.setIfInBounds_toArray, List.set_cons_zero, List.set_cons_succ]
              refine later_skip (i := 8) (d := 29) (by kernel_rfl) (by kernel_rfl) (by kernel_rfl) (by kernel_rfl) (fun _ _ _ h => h) (by rfl) ?_
              try simp only [Act.put, List.setIfInBounds_toArray, List.set_cons_zero, List.set_cons_succ]
              refine later_skip (i := 9) (d := 30) (by kernel_rfl) (by kernel_rfl) (by kernel_rfl) (by kernel_rfl) (fun _ _ _ h => h) (by rfl) ?_
              try simp only [Act.put, List.setIfInBounds_toArray, List.set_cons_zero, List.set_cons_succ]
              refine later_skip (i := 10) (d := 31) (by kernel_rfl) (by kernel_rfl) (by kernel_rfl) (by kernel_rfl) (fun _ _ _ h => h) (by rfl) ?_
              try simp only [Act.put, List.setIfInBounds_toArray, List.set_cons_zero, List.set_cons_succ]
              refine later_take (i := 11) (d := 32) (v := ?_) (by kernel_rfl) (by kernel_rfl) (by kernel_rfl) (by kernel_rfl) (fun _ _ _ h => h) (fun oi hoi => ?_) ?_
              rotate_left
              · simp at hoi
                subst hoi
                refine ⟨by rfl, fun w' hw' => ?_⟩
                go_simp
                all_goals rfl
              try simp only [Act.put, List.setIfInBounds_toArray, List.set_cons_zero, List.set_cons_succ]
              refine later_take (i := 12) (d := 33) (v := ?_) (by kernel_rfl) (by kernel_rfl) (by kernel_rfl) (by kernel_rfl) (fun _ _ _ h => h) (fun oi hoi => ?_) ?_
              rotate_left
              · simp at hoi
                subst hoi
                refine ⟨by rfl, fun w' hw' => ?_⟩
                go_simp
                all_goals rfl
              try simp only [Act.put, List.setIfInBounds_toArray, List.set_cons_zero, List.set_cons_succ]
              refine later_take (i := 13) (d := 34) (v := ?_) (by kernel_rfl) (by kernel_rfl) (by kernel_rfl) (by kernel_rfl) (fun _ _ _ h => h) (fun oi hoi => ?_) ?_
              rotate_left
              · simp at hoi
                subst hoi
                refine ⟨by rfl, fun w' hw' => ?_⟩
                go_simp
                all_goals rfl
              try simp only [Act.put, List.setIfInBounds_toArray, List.set_cons_zero, List.set_cons_succ]
              refine later_take (i := 14) (d := 35) (v := ?_) (by kernel_rfl) (by kernel_rfl) (by kernel_rfl) (by kernel_rfl) (fun _ _ _ h => h) (fun oi hoi => ?_) ?_
              rotate_left
              · simp at hoi
                subst hoi
                refine ⟨by rfl, fun w' hw' => ?_⟩
                have hx := Blk.below (unhide B) hw'
                have x1 := hx.cell 1
                simp only [List.getElem?_toArray, List.getElem?_cons_succ, List.getElem?_cons_zero] at x1
                go_simp
                all_goals rfl
              try simp only [Act.put, List.setIfInBounds_toArray, List.set_cons_zero, List.set_cons_succ]
              refine later_one (i := 15) (by kernel_rfl) (fun oi K hoi hK => ?_)
              simp at hoi
              subst hoi
              refine ⟨by rfl, ?_⟩
              go_simp
              refine (sSecOk_any sec _ HSM.out).mono ?_
              rw [HOKS.out]
              rintro e w5 ⟨rfl, hb⟩
              go_simp
              refine hK.out _ _ hb ?_
              clear hK
              replace A := hide ((unhide A).below hb)
              replace B := hide ((unhide B).below hb)
              replace HB := hide (HB.out.trans (hb.mono HB.out.size))
              clear hb
              try simp only [Act.put, List.setIfInBounds_toArray, List.set_cons_zero, List.set_cons_succ]
              refine later_take (i := 16) (d := 37) (v := ?_) (by kernel_rfl) (by kernel_rfl) (by kernel_rfl) (by kernel_rfl) (fun _ _ _ h => h) (fun oi hoi => ?_) ?_
              rotate_left
              · simp at hoi
                subst hoi
                refine ⟨by rfl, fun w' hw' => ?_⟩
                go_simp
                all_goals rfl
              try simp only [Act.put, List.setIfInBounds_toArray, List.set_cons_zero, List.set_cons_succ]
              refine later_take (i := 17) (d := 38) (v := ?_) (by kernel_rfl) (by kernel_rfl) (by kernel_rfl) (by kernel_rfl) (fun _ _ _ h => h) (fun oi hoi => ?_) ?_
              rotate_left
              · simp at hoi
                subst hoi
                refine ⟨by rfl, fun w' hw' => ?_⟩
                go_simp
                all_goals rfl
              try simp only [Act.put, List.setIfInBounds_toArray, List.set_cons_zero, List.set_cons_succ]
              refine later_take (i := 18) (d := 39) (v := ?_) (by kernel_rfl) (by kernel_rfl) (by kernel_rfl) (by kernel_rfl) (fun _ _ _ h => h) (fun oi hoi => ?_) ?_
              rotate_left
              · simp at hoi
                subst hoi
                refine ⟨by rfl, fun w' hw' => ?_⟩
                go_simp
                all_goals rfl
              try simp only [Act.put, List.setIfInBounds_toArray, List.set_cons_zero, List.set_cons_succ]
              refine later_take (i := 19) (d := 40) (v := ?_) (by kernel_rfl) (by kernel_rfl) (by kernel_rfl) (by kernel_rfl) (fun _ _ _ h => h) (fun oi hoi => ?_) ?_
              rotate_left
              · simp at hoi
                subst hoi
                refine ⟨by rfl, fun w' hw' => ?_⟩
                go_simp
                all_goals rfl
              try simp only [Act.put, List.setIfInBounds_toArray, List.set_cons_zero, List.set_cons_succ]
              refine later_take (i := 20) (d := 41) (v := ?_) (by kernel_rfl) (by kernel_rfl) (by kernel_rfl) (by kernel_rfl) (fun _ _ _ h => h) (fun oi hoi => ?_) ?_
              rotate_left
              · simp at hoi
                subst hoi
                refine ⟨by rfl, fun w' hw' => ?_⟩
                go_simp
                all_goals rfl
              try simp only [Act.put, List.setIfInBounds_toArray, List.set_cons_zero, List.set_cons_succ]
              refine later_take (i := 21) (d := 42) (v := ?_) (by kernel_rfl) (by kernel_rfl) (by kernel_rfl) (by kernel_rfl) (fun _ _ _ h => h) (fun oi hoi => ?_) ?_
              rotate_left
              · simp at hoi
                subst hoi
                refine ⟨by rfl, fun w' hw' => ?_⟩
                have hx := Blk.below (unhide A) hw'
                have x2 := hx.cell 2
                simp only [List.getElem?_toArray, List.getElem?_cons_succ, List.getElem?_cons_zero] at x2
                go_simp
                all_goals rfl
              try simp only [Act.put, List.setIfInBounds_toArray, List.set_cons_zero, List.set_cons_succ]
              refine later_take (i := 22) (d := 43) (v := ?_) (by kernel_rfl) (by kernel_rfl) (by kernel_rfl) (by kernel_rfl) (fun _ _ _ h => h) (fun oi hoi => ?_) ?_
              rotate_left
              · simp at hoi
                subst hoi
                refine ⟨by rfl, fun w' hw' => ?_⟩
                go_simp
                all_goals rfl
              try simp only [Act.put, List.setIfInBounds_toArray, List.set_cons_zero, List.set_cons_succ]
              refine later_take (i := 23) (d := 44) (v := ?_) (by kernel_rfl) (by kernel_rfl) (by kernel_rfl) (by kernel_rfl) (fun _ _ _ h => h) (fun oi hoi => ?_) ?_
              rotate_left
              · simp at hoi
                subst hoi
                refine ⟨by rfl, fun w' hw' => ?_⟩
                have hx := Blk.below (unhide B) hw'
                have x0 := hx.cell 0
                simp only [List.getElem?_toArray, List.getElem?_cons_zero] at x0
                go_simp
                all_goals rfl
              try simp only [Act.put, List.setIfInBounds_toArray, List.set_cons_zero, List.set_cons_succ]
              refine later_take (i := 24) (d := 45) (v := ?_) (by kernel_rfl) (by kernel_rfl) (by kernel_rfl) (by kernel_rfl) (fun _ _ _ h => h) (fun oi hoi => ?_) ?_
              rotate_left
              · simp at hoi
                subst hoi
                refine ⟨by rfl, fun w' hw' => ?_⟩
                go_simp
                all_goals rfl
              try simp only [Act.put, List.setIfInBounds_toArray, List.set_cons_zero, List.set_cons_succ]
              refine later_take (i := 25) (d := 46) (v := ?_) (by kernel_rfl) (by kernel_rfl) (by kernel_rfl) (by kernel_rfl) (fun _ _ _ h => h) (fun oi hoi => ?_) ?_
              rotate_left
              · simp at hoi
                subst hoi
                refine ⟨by rfl, fun w' hw' => ?_⟩
                have hx := ((unhide HK).below ((unhide HB).trans (hw'.mono (unhide HB).size))).form
                obtain ⟨ax, cx, qx, _, _, qy⟩ := hx
                rw [HL.out] at qx qy
                simp only [Value.slice.injEq] at qx
                obtain ⟨rfl, _, rfl⟩ := qx
                obtain ⟨a', ha', hcx⟩ := qy nq (by omega)
                cases ha'
                rw [HKY.out] at hcx
                go_simp
                all_goals rfl
              try simp only [Act.put, List.setIfInBounds_toArray, List.set_cons_zero, List.set_cons_succ]
              refine later_take (i := 26) (d := 47) (v := ?_) (by kernel_rfl) (by kernel_rfl) (by kernel_rfl) (by kernel_rfl) (fun _ _ _ h => h) (fun oi hoi => ?_) ?_
              rotate_left
              · simp at hoi
                subst hoi
                refine ⟨by rfl, fun w' hw' => ?_⟩
                go_simp
                all_goals rfl
              try simp only [Act.put, List.setIfInBounds_toArray, List.set_cons_zero, List.set_cons_succ]
              refine later_take (i := 27) (d := 48) (v := ?_) (by kernel_rfl) (by kernel_rfl) (by kernel_rfl) (by kernel_rfl) (fun _ _ _ h => h) (fun oi hoi => ?_) ?_
              rotate_left
              · simp at hoi
                subst hoi
                refine ⟨by rfl, fun w' hw' => ?_⟩
                have hx := Blk.below (unhide B) hw'
                have x1 := hx.cell 1
                simp only [List.getElem?_toArray, List.getElem?_cons_succ, List.getElem?_cons_zero] at x1
                go_simp
                all_goals rfl
              try simp only [Act.put, List.setIfInBounds_toArray, List.set_cons_zero, List.set_cons_succ]
              refine later_one (i := 28) (by kernel_rfl) (fun oi K hoi hK => ?_)
              simp at hoi
              subst hoi
              refine ⟨by rfl, ?_⟩
              go_simp
              refine (sMakKey_any sec _ HSM.out).mono ?_
              rintro e w6 ⟨rfl, hb⟩
              go_simp
              refine hK.out _ _ hb ?_
              clear hK
              replace A := hide ((unhide A).below hb)
              replace B := hide ((unhide B).below hb)
              replace HB := hide (HB.out.trans (hb.mono HB.out.size))
              clear hb
              try simp only [Act.put, List.setIfInBounds_toArray, List.set_cons_zero, List.set_cons_succ]
              refine later_take (i := 29) (d := 50) (v := ?_) (by kernel_rfl) (by kernel_rfl) (by kernel_rfl) (by kernel_rfl) (fun _ _ _ h => h) (fun oi hoi => ?_) ?_
              rotate_left
              · simp at hoi
                subst hoi
                refine ⟨by rfl, fun w' hw' => ?_⟩
                go_simp
                all_goals rfl
              try simp only [Act.put, List.setIfInBounds_toArray, List.set_cons_zero, List.set_cons_succ]
              refine later_take (i := 30) (d := 51) (v := ?_) (by kernel_rfl) (by kernel_rfl) (by kernel_rfl) (by kernel_rfl) (fun _ _ _ h => h) (fun oi hoi => ?_) ?_
              rotate_left
              · simp at hoi
                subst hoi
                refine ⟨by rfl, fun w' hw' => ?_⟩
                go_simp
                all_goals rfl
              try simp only [Act.put, List.setIfInBounds_toArray, List.set_cons_zero, List.set_cons_succ]
              refine later_take (i := 31) (d := 52) (v := ?_) (by kernel_rfl) (by kernel_rfl) (by kernel_rfl) (by kernel_rfl) (fun _ _ _ h => h) (fun oi hoi => ?_) ?_
              rotate_left
              · simp at hoi
                subst hoi
                refine ⟨by rfl, fun w' hw' => ?_⟩
                go_simp
                all_goals rfl
              try simp only [Act.put, List.setIfInBounds_toArray, List.set_cons_zero, List.set_cons_succ]
              refine later_take (i := 32) (d := 53) (v := ?_) (by kernel_rfl) (by kernel_rfl) (by kernel_rfl) (by kernel_rfl) (fun _ _ _ h => h) (fun oi hoi => ?_) ?_
              rotate_left
              · simp at hoi
                subst hoi
                refine ⟨by rfl, fun w' hw' => ?_⟩
                go_simp
                all_goals rfl
              try simp only [Act.put, List.setIfInBounds_toArray, List.set_cons_zero, List.set_cons_succ]
              refine later_take (i := 33) (d := 54) (v := ?_) (by kernel_rfl) (by kernel_rfl) (by kernel_rfl) (by kernel_rfl) (fun _ _ _ h => h) (fun oi hoi => ?_) ?_
              rotate_left
              · simp at hoi
                subst hoi
                refine ⟨by rfl, fun w' hw' => ?_⟩
                have hx := Blk.below (unhide A) hw'
                have x3 := hx.cell 3
                simp only [List.getElem?_toArray, List.getElem?_cons_succ, List.getElem?_cons_zero] at x3
                go_simp
                all_goals rfl
              try simp only [Act.put, List.setIfInBounds_toArray, List.set_cons_zero, List.set_cons_succ]
              refine later_take (i := 34) (d := 55) (v := ?_) (by kernel_rfl) (by kernel_rfl) (by kernel_rfl) (by kernel_rfl) (fun _ _ _ h => h) (fun oi hoi => ?_) ?_
              rotate_left
              · simp at hoi
                subst hoi
                refine ⟨by rfl, fun w' hw' => ?_⟩
                go_simp
                all_goals rfl
              try simp only [Act.put, List.setIfInBounds_toArray, List.set_cons_zero, List.set_cons_succ]
              refine later_take (i := 35) (d := 56) (v := ?_) (by kernel_rfl) (by kernel_rfl) (by kernel_rfl) (by kernel_rfl) (fun _ _ _ h => h) (fun oi hoi => ?_) ?_
              rotate_left
              · simp at hoi
                subst hoi
                refine ⟨by rfl, fun w' hw' => ?_⟩
                go_simp
                all_goals rfl
              try simp only [Act.put, List.setIfInBounds_toArray, List.set_cons_zero, List.set_cons_succ]
              refine later_take (i := 36) (d := 57) (v := ?_) (by kernel_rfl) (by kernel_rfl) (by kernel_rfl) (by kernel_rfl) (fun _ _ _ h => h) (fun oi hoi => ?_) ?_
              rotate_left
              · simp at hoi
                subst hoi
                refine ⟨by rfl, fun w' hw' => ?_⟩
                go_simp
                all_goals rfl
              try simp only [Act.put, List.setIfInBounds_toArray, List.set_cons_zero, List.set_cons_succ]
              refine later_take (i := 37) (d := 58) (v := ?_) (by kernel_rfl) (by kernel_rfl) (by kernel_rfl) (by kernel_rfl) (fun _ _ _ h => h) (fun oi hoi => ?_) ?_
              rotate_left
              · simp at hoi
                subst hoi
                refine ⟨by rfl, fun w' hw' => ?_⟩
                go_simp
                all_goals rfl
              try simp only [Act.put, List.setIfInBounds_toArray, List.set_cons_zero, List.set_cons_succ]
              refine later_take (i := 38) (d := 59) (v := ?_) (by kernel_rfl) (by kernel_rfl) (by kernel_rfl) (by kernel_rfl) (fun _ _ _ h => h) (fun oi hoi => ?_) ?_
              rotate_left
              · simp at hoi
                subst hoi
                refine ⟨by rfl, fun w' hw' => ?_⟩
                have hx := Blk.below (unhide B) hw'
                have x0 := hx.cell 0
                simp only [List.getElem?_toArray, List.getElem?_cons_zero] at x0
                go_simp
                all_goals rfl
              try simp only [Act.put, List.setIfInBounds_toArray, List.set_cons_zero, List.set_cons_succ]
              refine later_one (i := 39) (by kernel_rfl) (fun oi K hoi hK => ?_)
              simp at hoi
              subst hoi
              refine ⟨by rfl, ?_⟩
              go_simp
              refine (l4Own_any false 0 0 _ _ (own.take j) ⟨#[]⟩ ⟨#[]⟩ (nq : Int) _ (MRow.takeJ ((unhide HO).below (unhide HB)) hjl) ⟨_, _, _, rfl⟩).mono ?_
              rw [HAH.out]
              rintro e w7 ⟨rfl, hb⟩
              go_simp
              refine hK.out _ _ hb ?_
              clear hK
              replace A := hide ((unhide A).below hb)
              replace B := hide ((unhide B).below hb)
              replace HB := hide (HB.out.trans (hb.mono HB.out.size))
              clear hb
              try simp only [Act.put, List.setIfInBounds_toArray, List.set_cons_zero, List.set_cons_succ]
              refine later_take (i := 40) (d := 61) (v := ?_) (by kernel_rfl) (by kernel_rfl) (by kernel_rfl) (by kernel_rfl) (fun _ _ _ h => h) (fun oi hoi => ?_) ?_
              rotate_left
              · simp at hoi
                subst hoi
                refine ⟨by rfl, fun w' hw' => ?_⟩
                go_simp
                all_goals rfl
              try simp only [Act.put, List.setIfInBounds_toArray, List.set_cons_zero, List.set_cons_succ]
              refine later_take (i := 41) (d := 62) (v := ?_) (by kernel_rfl) (by kernel_rfl) (by kernel_rfl) (by kernel_rfl) (fun _ _ _ h => h) (fun oi hoi => ?_) ?_
              rotate_left
              · simp at hoi
                subst hoi
                refine ⟨by rfl, fun w' hw' => ?_⟩
                go_simp
                all_goals rfl
              try simp only [Act.put, List.setIfInBounds_toArray, List.set_cons_zero, List.set_cons_succ]
              refine later_done (by kernel_rfl) ?_ _
              go_wp2_with fail
              go_ret
              exact ⟨ret_bool' HE.out.symm, unhide HB⟩
          · have HE : Hid (fitsS keys own (chainOf (leafOf (k : Int))) = false) := HNO.out (by rw [HFD.out]; rw [HNQ.out, hky, decide_eq_false hkk]; simp)
            have hkn := str_ne hkk
            clear hky hkk
            go_wp2_with fail
            try rw [hW]
            refine wp_region_later (by kernel_rfl) ?_
            refine later_take (i := 0) (d := 21) (v := ?_) (by kernel_rfl) (by kernel_rfl) (by kernel_rfl) (by kernel_rfl) (fun _ _ _ h => h) (fun oi hoi => ?_) ?_
            rotate_left
            · simp at hoi
              subst hoi
              refine ⟨by rfl, fun w' hw' => ?_⟩
              go_simp
              all_goals rfl
            try simp only [Act.put, List.setIfInBounds_toArray, List.set_cons_zero, List.set_cons_succ]
            refine later_take (i := 1) (d := 22) (v := ?_) (by kernel_rfl) (by kernel_rfl) (by kernel_rfl) (by kernel_rfl) (fun _ _ _ h => h) (fun oi hoi => ?_) ?_
            rotate_left
            · simp at hoi
              subst hoi
              refine ⟨by rfl, fun w' hw' => ?_⟩
              have hx := Blk.below (unhide B) hw'
              have x0 := hx.cell 0
              simp only [List.getElem?_toArray, List.getElem?_cons_zero] at x0
              go_simp
              all_goals rfl
            try simp only [Act.put, List.setIfInBounds_toArray, List.set_cons_zero, List.set_cons_succ]
            refine later_take (i := 2) (d := 23) (v := ?_) (by kernel_rfl) (by kernel_rfl) (by kernel_rfl) (by kernel_rfl) (fun _ _ _ h => h) (fun oi hoi => ?_) ?_
            rotate_left
            · simp at hoi
              subst hoi
              refine ⟨by rfl, fun w' hw' => ?_⟩
              go_simp
              all_goals rfl
            try simp only [Act.put, List.setIfInBounds_toArray, List.set_cons_zero, List.set_cons_succ]
            refine later_take (i := 3) (d := 24) (v := ?_) (by kernel_rfl) (by kernel_rfl) (by kernel_rfl) (by kernel_rfl) (fun _ _ _ h => h) (fun oi hoi => ?_) ?_
            rotate_left
            · simp at hoi
              subst hoi
              refine ⟨by rfl, fun w' hw' => ?_⟩
              go_simp
              all_goals rfl
            try simp only [Act.put, List.setIfInBounds_toArray, List.set_cons_zero, List.set_cons_succ]
            refine later_take (i := 4) (d := 25) (v := ?_) (by kernel_rfl) (by kernel_rfl) (by kernel_rfl) (by kernel_rfl) (fun _ _ _ h => h) (fun oi hoi => ?_) ?_
            rotate_left
            · simp at hoi
              subst hoi
              refine ⟨by rfl, fun w' hw' => ?_⟩
              go_simp
              all_goals rfl
            try simp only [Act.put, List.setIfInBounds_toArray, List.set_cons_zero, List.set_cons_succ]
            refine later_skip (i := 5) (d := 26) (by kernel_rfl) (by kernel_rfl) (by kernel_rfl) (by kernel_rfl) (fun _ _ _ h => h) (by rfl) ?_
            try simp only [Act.put, List.setIfInBounds_toArray, List.set_cons_zero, List.set_cons_succ]
            refine later_skip (i := 6) (d := 27) (by kernel_rfl) (by kernel_rfl) (by kernel_rfl) (by kernel_rfl) (fun _ _ _ h => h) (by rfl) ?_
            try simp only [Act.put, List.setIfInBounds_toArray, List.set_cons_zero, List.set_cons_succ]
            refine later_skip (i := 7) (d := 28) (by kernel_rfl) (by kernel_rfl) (by kernel_rfl) (by kernel_rfl) (fun _ _ _ h => h) (by rfl) ?_
            try simp only [Act.put, List.setIfInBounds_toArray, List.set_cons_zero, List.set_cons_succ]
            refine later_skip (i := 8) (d := 29) (by kernel_rfl) (by kernel_rfl) (by kernel_rfl) (by kernel_rfl) (fun _ _ _ h => h) (by rfl) ?_
            try simp only [Act.put, List.setIfInBounds_toArray, List.set_cons_zero, List.set_cons_succ]
            refine later_skip (i := 9) (d := 30) (by kernel_rfl) (by kernel_rfl) (by kernel_rfl) (by kernel_rfl) (fun _ _ _ h => h) (by rfl) ?_
            try simp only [Act.put, List.setIfInBounds_toArray, List.set_cons_zero, List.set_cons_succ]
            refine later_skip (i := 10) (d := 31) (by kernel_rfl) (by kernel_rfl) (by kernel_rfl) (by kernel_rfl) (fun _ _ _ h => h) (by rfl) ?_
            try simp only [Act.put, List.setIfInBounds_toArray, List.set_cons_zero, List.set_cons_succ]
            refine later_take (i := 11) (d := 32) (v := ?_) (by kernel_rfl) (by kernel_rfl) (by kernel_rfl) (by kernel_rfl) (fun _ _ _ h => h) (fun oi hoi => ?_) ?_
            rotate_left
            · simp at hoi
              subst hoi
              refine ⟨by rfl, fun w' hw' => ?_⟩
              go_simp
              all_goals rfl
            try simp only [Act.put, List.setIfInBounds_toArray, List.set_cons_zero, List.set_cons_succ]
            refine later_take (i := 12) (d := 33) (v := ?_) (by kernel_rfl) (by kernel_rfl) (by kernel_rfl) (by kernel_rfl) (fun _ _ _ h => h) (fun oi hoi => ?_) ?_
            rotate_left
            · simp at hoi
              subst hoi
              refine ⟨by rfl, fun w' hw' => ?_⟩
              go_simp
              all_goals rfl
            try simp only [Act.put, List.setIfInBounds_toArray, List.set_cons_zero, List.set_cons_succ]
            refine later_take (i := 13) (d := 34) (v := ?_) (by kernel_rfl) (by kernel_rfl) (by kernel_rfl) (by kernel_rfl) (fun _ _ _ h => h) (fun oi hoi => ?_) ?_
            rotate_left
            · simp at hoi
              subst hoi
              refine ⟨by rfl, fun w' hw' => ?_⟩
              go_simp
              all_goals rfl
            try simp only [Act.put, List.setIfInBounds_toArray, List.set_cons_zero, List.set_cons_succ]
            refine later_take (i := 14) (d := 35) (v := ?_) (by kernel_rfl) (by kernel_rfl) (by kernel_rfl) (by kernel_rfl) (fun _ _ _ h => h) (fun oi hoi => ?_) ?_
            rotate_left
            · simp at hoi
              subst hoi
              refine ⟨by rfl, fun w' hw' => ?_⟩
              have hx := Blk.below (unhide B) hw'
              have x1 := hx.cell 1
              simp only [List.getElem?_toArray, List.getElem?_cons_succ, List.getElem?_cons_zero] at x1
              go_simp
              all_goals rfl
            try simp only [Act.put, List.setIfInBounds_toArray, List.set_cons_zero, List.set_cons_succ]
            refine later_one (i := 15) (by kernel_rfl) (fun oi K hoi hK => ?_)
            simp at hoi
            subst hoi
            refine ⟨by rfl, ?_⟩
            go_simp
            refine (sSecOk_any sec _ HSM.out).mono ?_
            rw [HOKS.out]
            rintro e w5 ⟨rfl, hb⟩
            go_simp
            refine hK.out _ _ hb ?_
            clear hK
            replace A := hide ((unhide A).below hb)
            replace B := hide ((unhide B).below hb)
            replace HB := hide (HB.out.trans (hb.mono HB.out.size))
            clear hb
            try simp only [Act.put, List.setIfInBounds_toArray, List.set_cons_zero, List.set_cons_succ]
            refine later_take (i := 16) (d := 37) (v := ?_) (by kernel_rfl) (by kernel_rfl) (by kernel_rfl) (by kernel_rfl) (fun _ _ _ h => h) (fun oi hoi => ?_) ?_
            rotate_left
            · simp at hoi
              subst hoi
              refine ⟨by rfl, fun w' hw' => ?_⟩
              go_simp
              all_goals rfl
            try simp only [Act.put, List.setIfInBounds_toArray, List.set_cons_zero, List.set_cons_succ]
            refine later_take (i := 17) (d := 38) (v := ?_) (by kernel_rfl) (by kernel_rfl) (by kernel_rfl) (by kernel_rfl) (fun _ _ _ h => h) (fun oi hoi => ?_) ?_
            rotate_left
            · simp at hoi
              subst hoi
              refine ⟨by rfl, fun w' hw' => ?_⟩
              go_simp
              all_goals rfl
            try simp only [Act.put, List.setIfInBounds_toArray, List.set_cons_zero, List.set_cons_succ]
            refine later_take (i := 18) (d := 39) (v := ?_) (by kernel_rfl) (by kernel_rfl) (by kernel_rfl) (by kernel_rfl) (fun _ _ _ h => h) (fun oi hoi => ?_) ?_
            rotate_left
            · simp at hoi
              subst hoi
              refine ⟨by rfl, fun w' hw' => ?_⟩
              go_simp
              all_goals rfl
            try simp only [Act.put, List.setIfInBounds_toArray, List.set_cons_zero, List.set_cons_succ]
            refine later_take (i := 19) (d := 40) (v := ?_) (by kernel_rfl) (by kernel_rfl) (by kernel_rfl) (by kernel_rfl) (fun _ _ _ h => h) (fun oi hoi => ?_) ?_
            rotate_left
            · simp at hoi
              subst hoi
              refine ⟨by rfl, fun w' hw' => ?_⟩
              go_simp
              all_goals rfl
            try simp only [Act.put, List.setIfInBounds_toArray, List.set_cons_zero, List.set_cons_succ]
            refine later_take (i := 20) (d := 41) (v := ?_) (by kernel_rfl) (by kernel_rfl) (by kernel_rfl) (by kernel_rfl) (fun _ _ _ h => h) (fun oi hoi => ?_) ?_
            rotate_left
            · simp at hoi
              subst hoi
              refine ⟨by rfl, fun w' hw' => ?_⟩
              go_simp
              all_goals rfl
            try simp only [Act.put, List.setIfInBounds_toArray, List.set_cons_zero, List.set_cons_succ]
            refine later_take (i := 21) (d := 42) (v := ?_) (by kernel_rfl) (by kernel_rfl) (by kernel_rfl) (by kernel_rfl) (fun _ _ _ h => h) (fun oi hoi => ?_) ?_
            rotate_left
            · simp at hoi
              subst hoi
              refine ⟨by rfl, fun w' hw' => ?_⟩
              have hx := Blk.below (unhide A) hw'
              have x2 := hx.cell 2
              simp only [List.getElem?_toArray, List.getElem?_cons_succ, List.getElem?_cons_zero] at x2
              go_simp
              all_goals rfl
            try simp only [Act.put, List.setIfInBounds_toArray, List.set_cons_zero, List.set_cons_succ]
            refine later_take (i := 22) (d := 43) (v := ?_) (by kernel_rfl) (by kernel_rfl) (by kernel_rfl) (by kernel_rfl) (fun _ _ _ h => h) (fun oi hoi => ?_) ?_
            rotate_left
            · simp at hoi
              subst hoi
              refine ⟨by rfl, fun w' hw' => ?_⟩
              go_simp
              all_goals rfl
            try simp only [Act.put, List.setIfInBounds_toArray, List.set_cons_zero, List.set_cons_succ]
            refine later_take (i := 23) (d := 44) (v := ?_) (by kernel_rfl) (by kernel_rfl) (by kernel_rfl) (by kernel_rfl) (fun _ _ _ h => h) (fun oi hoi => ?_) ?_
            rotate_left
            · simp at hoi
              subst hoi
              refine ⟨by rfl, fun w' hw' => ?_⟩
              have hx := Blk.below (unhide B) hw'
              have x0 := hx.cell 0
              simp only [List.getElem?_toArray, List.getElem?_cons_zero] at x0
              go_simp
              all_goals rfl
            try simp only [Act.put, List.setIfInBounds_toArray, List.set_cons_zero, List.set_cons_succ]
            refine later_take (i := 24) (d := 45) (v := ?_) (by kernel_rfl) (by kernel_rfl) (by kernel_rfl) (by kernel_rfl) (fun _ _ _ h => h) (fun oi hoi => ?_) ?_
            rotate_left
            · simp at hoi
              subst hoi
              refine ⟨by rfl, fun w' hw' => ?_⟩
              go_simp
              all_goals rfl
            try simp only [Act.put, List.setIfInBounds_toArray, List.set_cons_zero, List.set_cons_succ]
            refine later_take (i := 25) (d := 46) (v := ?_) (by kernel_rfl) (by kernel_rfl) (by kernel_rfl) (by kernel_rfl) (fun _ _ _ h => h) (fun oi hoi => ?_) ?_
            rotate_left
            · simp at hoi
              subst hoi
              refine ⟨by rfl, fun w' hw' => ?_⟩
              have hx := ((unhide HK).below ((unhide HB).trans (hw'.mono (unhide HB).size))).form
              obtain ⟨ax, cx, qx, _, _, qy⟩ := hx
              rw [HL.out] at qx qy
              simp only [Value.slice.injEq] at qx
              obtain ⟨rfl, _, rfl⟩ := qx
              obtain ⟨a', ha', hcx⟩ := qy nq (by omega)
              cases ha'
              rw [HKY.out] at hcx
              go_simp
              all_goals rfl
            try simp only [Act.put, List.setIfInBounds_toArray, List.set_cons_zero, List.set_cons_succ]
            refine later_take (i := 26) (d := 47) (v := ?_) (by kernel_rfl) (by kernel_rfl) (by kernel_rfl) (by kernel_rfl) (fun _ _ _ h => h) (fun oi hoi => ?_) ?_
            rotate_left
            · simp at hoi
              subst hoi
              refine ⟨by rfl, fun w' hw' => ?_⟩
              go_simp
              all_goals rfl
            try simp only [Act.put, List.setIfInBounds_toArray, List.set_cons_zero, List.set_cons_succ]
            refine later_take (i := 27) (d := 48) (v := ?_) (by kernel_rfl) (by kernel_rfl) (by kernel_rfl) (by kernel_rfl) (fun _ _ _ h => h) (fun oi hoi => ?_) ?_
            rotate_left
            · simp at hoi
              subst hoi
              refine ⟨by rfl, fun w' hw' => ?_⟩
              have hx := Blk.below (unhide B) hw'
              have x1 := hx.cell 1
              simp only [List.getElem?_toArray, List.getElem?_cons_succ, List.getElem?_cons_zero] at x1
              go_simp
              all_goals rfl
            try simp only [Act.put, List.setIfInBounds_toArray, List.set_cons_zero, List.set_cons_succ]
            refine later_one (i := 28) (by kernel_rfl) (fun oi K hoi hK => ?_)
            simp at hoi
            subst hoi
            refine ⟨by rfl, ?_⟩
            go_simp
            refine (sMakKey_any sec _ HSM.out).mono ?_
            rintro e w6 ⟨rfl, hb⟩
            go_simp
            refine hK.out _ _ hb ?_
            clear hK
            replace A := hide ((unhide A).below hb)
            replace B := hide ((unhide B).below hb)
            replace HB := hide (HB.out.trans (hb.mono HB.out.size))
            clear hb
            try simp only [Act.put, List.setIfInBounds_toArray, List.set_cons_zero, List.set_cons_succ]
            refine later_take (i := 29) (d := 50) (v := ?_) (by kernel_rfl) (by kernel_rfl) (by kernel_rfl) (by kernel_rfl) (fun _ _ _ h => h) (fun oi hoi => ?_) ?_
            rotate_left
            · simp at hoi
              subst hoi
              refine ⟨by rfl, fun w' hw' => ?_⟩
              go_simp
              all_goals rfl
            try simp only [Act.put, List.setIfInBounds_toArray, List.set_cons_zero, List.set_cons_succ]
            refine later_take (i := 30) (d := 51) (v := ?_) (by kernel_rfl) (by kernel_rfl) (by kernel_rfl) (by kernel_rfl) (fun _ _ _ h => h) (fun oi hoi => ?_) ?_
            rotate_left
            · simp at hoi
              subst hoi
              refine ⟨by rfl, fun w' hw' => ?_⟩
              go_simp
              all_goals rfl
            try simp only [Act.put, List.setIfInBounds_toArray, List.set_cons_zero, List.set_cons_succ]
            refine later_take (i := 31) (d := 52) (v := ?_) (by kernel_rfl) (by kernel_rfl) (by kernel_rfl) (by kernel_rfl) (fun _ _ _ h => h) (fun oi hoi => ?_) ?_
            rotate_left
            · simp at hoi
              subst hoi
              refine ⟨by rfl, fun w' hw' => ?_⟩
              go_simp
              all_goals rfl
            try simp only [Act.put, List.setIfInBounds_toArray, List.set_cons_zero, List.set_cons_succ]
            refine later_skip (i := 32) (d := 53) (by kernel_rfl) (by kernel_rfl) (by kernel_rfl) (by kernel_rfl) (fun _ _ _ h => h) (by rfl) ?_
            try simp only [Act.put, List.setIfInBounds_toArray, List.set_cons_zero, List.set_cons_succ]
            refine later_skip (i := 33) (d := 54) (by kernel_rfl) (by kernel_rfl) (by kernel_rfl) (by kernel_rfl) (fun _ _ _ h => h) (by rfl) ?_
            try simp only [Act.put, List.setIfInBounds_toArray, List.set_cons_zero, List.set_cons_succ]
            refine later_skip (i := 34) (d := 55) (by kernel_rfl) (by kernel_rfl) (by kernel_rfl) (by kernel_rfl) (fun _ _ _ h => h) (by rfl) ?_
            try simp only [Act.put, List.setIfInBounds_toArray, List.set_cons_zero, List.set_cons_succ]
            refine later_skip (i := 35) (d := 56) (by kernel_rfl) (by kernel_rfl) (by kernel_rfl) (by kernel_rfl) (fun _ _ _ h => h) (by rfl) ?_
            try simp only [Act.put, List.setIfInBounds_toArray, List.set_cons_zero, List.set_cons_succ]
            refine later_skip (i := 36) (d := 57) (by kernel_rfl) (by kernel_rfl) (by kernel_rfl) (by kernel_rfl) (fun _ _ _ h => h) (by rfl) ?_
            try simp only [Act.put, List.setIfInBounds_toArray, List.set_cons_zero, List.set_cons_succ]
            refine later_skip (i := 37) (d := 58) (by kernel_rfl) (by kernel_rfl) (by kernel_rfl) (by kernel_rfl) (fun _ _ _ h => h) (by rfl) ?_
            try simp only [Act.put, List.setIfInBounds_toArray, List.set_cons_zero, List.set_cons_succ]
            refine later_skip (i := 38) (d := 59) (by kernel_rfl) (by kernel_rfl) (by kernel_rfl) (by kernel_rfl) (fun _ _ _ h => h) (by rfl) ?_
            try simp only [Act.put, List.setIfInBounds_toArray, List.set_cons_zero, List.set_cons_succ]
            refine later_skip (i := 39) (d := 60) (by kernel_rfl) (by kernel_rfl) (by kernel_rfl) (by kernel_rfl) (fun _ _ _ h => h) (by rfl) ?_
            try simp only [Act.put, List.setIfInBounds_toArray, List.set_cons_zero, List.set_cons_succ]
            refine later_skip (i := 40) (d := 61) (by kernel_rfl) (by kernel_rfl) (by kernel_rfl) (by kernel_rfl) (fun _ _ _ h => h) (by rfl) ?_
            try simp only [Act.put, List.setIfInBounds_toArray, List.set_cons_zero, List.set_cons_succ]
            refine later_take (i := 41) (d := 62) (v := ?_) (by kernel_rfl) (by kernel_rfl) (by kernel_rfl) (by kernel_rfl) (fun _ _ _ h => h) (fun oi hoi => ?_) ?_
            rotate_left
            · simp at hoi
              subst hoi
              refine ⟨by rfl, fun w' hw' => ?_⟩
              go_simp
              all_goals rfl
            try simp only [Act.put, List.setIfInBounds_toArray, List.set_cons_zero, List.set_cons_succ]
            refine later_done (by kernel_rfl) ?_ _
            go_wp2_with fail
            go_ret
            exact ⟨ret_bool' HE.out.symm, unhide HB⟩
      · have hnl2 : ¬ nd = (lf : Int) := hnl
        have hnl3 : (nd == (lf : Int)) = false := by simpa using hnl
        have hnl4 : (nd != (lf : Int)) = true := bne_iff_ne.2 hnl
        by_cases hup : nd ∈ upOf (lf : Int)
        · have HUP : Hid (decide (nd ∈ upOf (lf : Int)) = true) := decide_eq_true hup
          obtain ⟨nq, hnq⟩ : ∃ nq : Nat, nd = (nq : Int) := ⟨nd.toNat, by have := HU15.out nd hup; omega⟩
          have hq15 : nq < 15 := by have := HU15.out nd hup; omega
          have hq2 : (nq : Int) < 15 := by omega
          have HIN : Hid (nd ∈ (lf : Int) :: upOf (lf : Int)) := List.mem_cons_of_mem _ hup
          have HNQ : Hid (nd.toNat = nq) := by show _ = _; rw [hnq]; rfl
          subst hnq
          clear hup hnl
          cases hok : Kw.ok sec with
          | false =>
            have HOKS := hide hok
            have HE : Hid (fitsS keys own (chainOf (leafOf (k : Int))) = false) := HNO.out (by rw [HFD.out]; rw [hok]; simp)
            clear hok
            go_wp2_with fail
            try rw [hW]
            refine wp_region_later (by kernel_rfl) ?_
            refine later_take (i := 0) (d := 21) (v := ?_) (by kernel_rfl) (by kernel_rfl) (by kernel_rfl) (by kernel_rfl) (fun _ _ _ h => h) (fun oi hoi => ?_) ?_
            rotate_left
            · simp at hoi
              subst hoi
              refine ⟨by rfl, fun w' hw' => ?_⟩
              go_simp
              all_goals rfl
            try simp only [Act.put, List.setIfInBounds_toArray, List.set_cons_zero, List.set_cons_succ]
            refine later_take (i := 1) (d := 22) (v := ?_) (by kernel_rfl) (by kernel_rfl) (by kernel_rfl) (by kernel_rfl) (fun _ _ _ h => h) (fun oi hoi => ?_) ?_
            rotate_left
            · simp at hoi
              subst hoi
              refine ⟨by rfl, fun w' hw' => ?_⟩
              have hx := Blk.below (unhide B) hw'
              have x0 := hx.cell 0
              simp only [List.getElem?_toArray, List.getElem?_cons_zero] at x0
              go_simp
              all_goals rfl
            try simp only [Act.put, List.setIfInBounds_toArray, List.set_cons_zero, List.set_cons_succ]
            refine later_take (i := 2) (d := 23) (v := ?_) (by kernel_rfl) (by kernel_rfl) (by kernel_rfl) (by kernel_rfl) (fun _ _ _ h => h) (fun oi hoi => ?_) ?_
            rotate_left
            · simp at hoi
              subst hoi
              refine ⟨by rfl, fun w' hw' => ?_⟩
              go_simp
              all_goals rfl
            try simp only [Act.put, List.setIfInBounds_toArray, List.set_cons_zero, List.set_cons_succ]
            refine later_take (i := 3) (d := 24) (v := ?_) (by kernel_rfl) (by kernel_rfl) (by kernel_rfl) (by kernel_rfl) (fun _ _ _ h => h) (fun oi hoi => ?_) ?_
            rotate_left
            · simp at hoi
              subst hoi
              refine ⟨by rfl, fun w' hw' => ?_⟩
              go_simp
              all_goals rfl
            try simp only [Act.put, List.setIfInBounds_toArray, List.set_cons_zero, List.set_cons_succ]
            refine later_take (i := 4) (d := 25) (v := ?_) (by kernel_rfl) (by kernel_rfl) (by kernel_rfl) (by kernel_rfl) (fun _ _ _ h => h) (fun oi hoi => ?_) ?_
            rotate_left
            · simp at hoi
              subst hoi
              refine ⟨by rfl, fun w' hw' => ?_⟩
              go_simp
              all_goals rfl
            try simp only [Act.put, List.setIfInBounds_toArray, List.set_cons_zero, List.set_cons_succ]
            refine later_take (i := 5) (d := 26) (v := ?_) (by kernel_rfl) (by kernel_rfl) (by kernel_rfl) (by kernel_rfl) (fun _ _ _ h => h) (fun oi hoi => ?_) ?_
            rotate_left
            · simp at hoi
              subst hoi
              refine ⟨by rfl, fun w' hw' => ?_⟩
              go_simp
              all_goals rfl
            try simp only [Act.put, List.setIfInBounds_toArray, List.set_cons_zero, List.set_cons_succ]
            refine later_take (i := 7) (d := 28) (v := ?_) (by kernel_rfl) (by kernel_rfl) (by kernel_rfl) (by kernel_rfl) (fun _ _ _ h => h) (fun oi hoi => ?_) ?_
            rotate_left
            · simp at hoi
              subst hoi
              refine ⟨by rfl, fun w' hw' => ?_⟩
              go_simp
              all_goals rfl
            try simp only [Act.put, List.setIfInBounds_toArray, List.set_cons_zero, List.set_cons_succ]
            refine later_take (i := 8) (d := 29) (v := ?_) (by kernel_rfl) (by kernel_rfl) (by kernel_rfl) (by kernel_rfl) (fun _ _ _ h => h) (fun oi hoi => ?_) ?_
            rotate_left
            · simp at hoi
              subst hoi
              refine ⟨by rfl, fun w' hw' => ?_⟩
              have hx := Blk.below (unhide B) hw'
              have x0 := hx.cell 0
              simp only [List.getElem?_toArray, List.getElem?_cons_zero] at x0
              go_simp
              all_goals rfl
            try simp only [Act.put, List.setIfInBounds_toArray, List.set_cons_zero, List.set_cons_succ]
            refine later_one (i := 6) (by kernel_rfl) (fun oi K hoi hK => ?_)
            simp at hoi
            subst hoi
            refine ⟨by rfl, ?_⟩
            go_simp
            refine (sTreUp_any (lf : Int) _).mono ?_
            rintro e wu ⟨vu, rfl, hou, hb⟩
            go_simp
            refine hK.out _ _ hb ?_
            clear hK
            have V := hide hou.irow
            clear hou
            replace A := hide ((unhide A).below hb)
            replace B := hide ((unhide B).below hb)
            replace HB := hide (HB.out.trans (hb.mono HB.out.size))
            clear hb
            try simp only [Act.put, List.setIfInBounds_toArray, List.set_cons_zero, List.set_cons_succ]
            refine later_one (i := 9) (by kernel_rfl) (fun oi K hoi hK => ?_)
            simp at hoi
            subst hoi
            refine ⟨by rfl, ?_⟩
            go_simp
            refine (l4In_any vu (upOf (lf : Int)) (nq : Int) _ (unhide V)).mono ?_
            rw [HUP.out]
            rintro e wz ⟨rfl, rfl⟩
            go_simp
            refine hK.out _ _ (Below.refl _ _) ?_
            clear hK
            clear V
            try simp only [Act.put, List.setIfInBounds_toArray, List.set_cons_zero, List.set_cons_succ]
            refine later_take (i := 10) (d := 31) (v := ?_) (by kernel_rfl) (by kernel_rfl) (by kernel_rfl) (by kernel_rfl) (fun _ _ _ h => h) (fun oi hoi => ?_) ?_
            rotate_left
            · simp at hoi
              subst hoi
              refine ⟨by rfl, fun w' hw' => ?_⟩
              go_simp
              all_goals rfl
            try simp only [Act.put, List.setIfInBounds_toArray, List.set_cons_zero, List.set_cons_succ]
            refine later_take (i := 11) (d := 32) (v := ?_) (by kernel_rfl) (by kernel_rfl) (by kernel_rfl) (by kernel_rfl) (fun _ _ _ h => h) (fun oi hoi => ?_) ?_
            rotate_left
            · simp at hoi
              subst hoi
              refine ⟨by rfl, fun w' hw' => ?_⟩
              go_simp
              all_goals rfl
            try simp only [Act.put, List.setIfInBounds_toArray, List.set_cons_zero, List.set_cons_succ]
            refine later_take (i := 12) (d := 33) (v := ?_) (by kernel_rfl) (by kernel_rfl) (by kernel_rfl) (by kernel_rfl) (fun _ _ _ h => h) (fun oi hoi => ?_) ?_
            rotate_left
            · simp at hoi
              subst hoi
              refine ⟨by rfl, fun w' hw' => ?_⟩
              go_simp
              all_goals rfl
            try simp only [Act.put, List.setIfInBounds_toArray, List.set_cons_zero, List.set_cons_succ]
            refine later_take (i := 13) (d := 34) (v := ?_) (by kernel_rfl) (by kernel_rfl) (by kernel_rfl) (by kernel_rfl) (fun _ _ _ h => h) (fun oi hoi => ?_) ?_
            rotate_left
            · simp at hoi
              subst hoi
              refine ⟨by rfl, fun w' hw' => ?_⟩
              go_simp
              all_goals rfl
            try simp only [Act.put, List.setIfInBounds_toArray, List.set_cons_zero, List.set_cons_succ]
            refine later_take (i := 14) (d := 35) (v := ?_) (by kernel_rfl) (by kernel_rfl) (by kernel_rfl) (by kernel_rfl) (fun _ _ _ h => h) (fun oi hoi => ?_) ?_
            rotate_left
            · simp at hoi
              subst hoi
              refine ⟨by rfl, fun w' hw' => ?_⟩
              have hx := Blk.below (unhide B) hw'
              have x1 := hx.cell 1
              simp only [List.getElem?_toArray, List.getElem?_cons_succ, List.getElem?_cons_zero] at x1
              go_simp
              all_goals rfl
            try simp only [Act.put, List.setIfInBounds_toArray, List.set_cons_zero, List.set_cons_succ]
            refine later_one (i := 15) (by kernel_rfl) (fun oi K hoi hK => ?_)
            simp at hoi
            subst hoi
            refine ⟨by rfl, ?_⟩
            go_simp
            refine (sSecOk_any sec _ HSM.out).mono ?_
            rw [HOKS.out]
            rintro e w5 ⟨rfl, hb⟩
            go_simp
            refine hK.out _ _ hb ?_
            clear hK
            replace A := hide ((unhide A).below hb)
            replace B := hide ((unhide B).below hb)
            replace HB := hide (HB.out.trans (hb.mono HB.out.size))
            clear hb
            try simp only [Act.put, List.setIfInBounds_toArray, List.set_cons_zero, List.set_cons_succ]
            refine later_take (i := 16) (d := 37) (v := ?_) (by kernel_rfl) (by kernel_rfl) (by kernel_rfl) (by kernel_rfl) (fun _ _ _ h => h) (fun oi hoi => ?_) ?_
            rotate_left
            · simp at hoi
              subst hoi
              refine ⟨by rfl, fun w' hw' => ?_⟩
              go_simp
              all_goals rfl
            try simp only [Act.put, List.setIfInBounds_toArray, List.set_cons_zero, List.set_cons_succ]
            refine later_take (i := 17) (d := 38) (v := ?_) (by kernel_rfl) (by kernel_rfl) (by kernel_rfl) (by kernel_rfl) (fun _ _ _ h => h) (fun oi hoi => ?_) ?_
            rotate_left
            · simp at hoi
              subst hoi
              refine ⟨by rfl, fun w' hw' => ?_⟩
              go_simp
              all_goals rfl
            try simp only [Act.put, List.setIfInBounds_toArray, List.set_cons_zero, List.set_cons_succ]
            refine later_take (i := 18) (d := 39) (v := ?_) (by kernel_rfl) (by kernel_rfl) (by kernel_rfl) (by kernel_rfl) (fun _ _ _ h => h) (fun oi hoi => ?_) ?_
            rotate_left
            · simp at hoi
              subst hoi
              refine ⟨by rfl, fun w' hw' => ?_⟩
              go_simp
              all_goals rfl
            try simp only [Act.put, List.setIfInBounds_toArray, List.set_cons_zero, List.set_cons_succ]
            refine later_skip (i := 19) (d := 40) (by kernel_rfl) (by kernel_rfl) (by kernel_rfl) (by kernel_rfl) (fun _ _ _ h => h) (by rfl) ?_
            try simp only [Act.put, List.setIfInBounds_toArray, List.set_cons_zero, List.set_cons_succ]
            refine later_skip (i := 20) (d := 41) (by kernel_rfl) (by kernel_rfl) (by kernel_rfl) (by kernel_rfl) (fun _ _ _ h => h) (by rfl) ?_
            try simp only [Act.put, List.setIfInBounds_toArray, List.set_cons_zero, List.set_cons_succ]
            refine later_skip (i := 21) (d := 42) (by kernel_rfl) (by kernel_rfl) (by kernel_rfl) (by kernel_rfl) (fun _ _ _ h => h) (by rfl) ?_
            try simp only [Act.put, List.setIfInBounds_toArray, List.set_cons_zero, List.set_cons_succ]
            refine later_skip (i := 22) (d := 43) (by kernel_rfl) (by kernel_rfl) (by kernel_rfl) (by kernel_rfl) (fun _ _ _ h => h) (by rfl) ?_
            try simp only [Act.put, List.setIfInBounds_toArray, List.set_cons_zero, List.set_cons_succ]
            refine later_skip (i := 23) (d := 44) (by kernel_rfl) (by kernel_rfl) (by kernel_rfl) (by kernel_rfl) (fun _ _ _ h => h) (by rfl) ?_
            try simp only [Act.put, List.setIfInBounds_toArray, List.set_cons_zero, List.set_cons_succ]
            refine later_skip (i := 24) (d := 45) (by kernel_rfl) (by kernel_rfl) (by kernel_rfl) (by kernel_rfl) (fun _ _ _ h => h) (by rfl) ?_
            try simp only [Act.put, List.setIfInBounds_toArray, List.set_cons_zero, List.set_cons_succ]
            refine later_skip (i := 25) (d := 46) (by kernel_rfl) (by kernel_rfl) (by kernel_rfl) (by kernel_rfl) (fun _ _ _ h => h) (by rfl) ?_
            try simp only [Act.put, List.setIfInBounds_toArray, List.set_cons_zero, List.set_cons_succ]
            refine later_skip (i := 26) (d := 47) (by kernel_rfl) (by kernel_rfl) (by kernel_rfl) (by kernel_rfl) (fun _ _ _ h => h) (by rfl) ?_
            try simp only [Act.put, List.setIfInBounds_toArray, List.set_cons_zero, List.set_cons_succ]
            refine later_skip (i := 27) (d := 48) (by kernel_rfl) (by kernel_rfl) (by kernel_rfl) (by kernel_rfl) (fun _ _ _ h => h) (by rfl) ?_
            try simp only [Act.put, List.setIfInBounds_toArray, List.set_cons_zero, List.set_cons_succ]
            refine later_skip (i := 28) (d := 49) (by kernel_rfl) (by kernel_rfl) (by kernel_rfl) (by kernel_rfl) (fun _ _ _ h => h) (by rfl) ?_
            try simp only [Act.put, List.setIfInBounds_toArray, List.set_cons_zero, List.set_cons_succ]
            refine later_skip (i := 29) (d := 50) (by kernel_rfl) (by kernel_rfl) (by kernel_rfl) (by kernel_rfl) (fun _ _ _ h => h) (by rfl) ?_
            try simp only [Act.put, List.setIfInBounds_toArray, List.set_cons_zero, List.set_cons_succ]
            refine later_take (i := 30) (d := 51) (v := ?_) (by kernel_rfl) (by kernel_rfl) (by kernel_rfl) (by kernel_rfl) (fun _ _ _ h => h) (fun oi hoi => ?_) ?_
            rotate_left
            · simp at hoi
              subst hoi
              refine ⟨by rfl, fun w' hw' => ?_⟩
              go_simp
              all_goals rfl
            try simp only [Act.put, List.setIfInBounds_toArray, List.set_cons_zero, List.set_cons_succ]
            refine later_take (i := 31) (d := 52) (v := ?_) (by kernel_rfl) (by kernel_rfl) (by kernel_rfl) (by kernel_rfl) (fun _ _ _ h => h) (fun oi hoi => ?_) ?_
            rotate_left
            · simp at hoi
              subst hoi
              refine ⟨by rfl, fun w' hw' => ?_⟩
              go_simp
              all_goals rfl
            try simp only [Act.put, List.setIfInBounds_toArray, List.set_cons_zero, List.set_cons_succ]
            refine later_skip (i := 32) (d := 53) (by kernel_rfl) (by kernel_rfl) (by kernel_rfl) (by kernel_rfl) (fun _ _ _ h => h) (by rfl) ?_
            try simp only [Act.put, List.setIfInBounds_toArray, List.set_cons_zero, List.set_cons_succ]
            refine later_skip (i := 33) (d := 54) (by kernel_rfl) (by kernel_rfl) (by kernel_rfl) (by kernel_rfl) (fun _ _ _ h => h) (by rfl) ?_
            try simp only [Act.put, List.setIfInBounds_toArray, List.set_cons_zero, List.set_cons_succ]
            refine later_skip (i := 34) (d := 55) (by kernel_rfl) (by kernel_rfl) (by kernel_rfl) (by kernel_rfl) (fun _ _ _ h => h) (by rfl) ?_
            try simp only [Act.put, List.setIfInBounds_toArray, List.set_cons_zero, List.set_cons_succ]
            refine later_skip (i := 35) (d := 56) (by kernel_rfl) (by kernel_rfl) (by kernel_rfl) (by kernel_rfl) (fun _ _ _ h => h) (by rfl) ?_
            try simp only [Act.put, List.setIfInBounds_toArray, List.set_cons_zero, List.set_cons_succ]
            refine later_skip (i := 36) (d := 57) (by kernel_rfl) (by kernel_rfl) (by kernel_rfl) (by kernel_rfl) (fun _ _ _ h => h) (by rfl) ?_
            try simp only [Act.put, List.setIfInBounds_toArray, List.set_cons_zero, List.set_cons_succ]
            refine later_skip (i := 37) (d := 58) (by kernel_rfl) (by kernel_rfl) (by kernel_rfl) (by kernel_rfl) (fun _ _ _ h => h) (by rfl) ?_
            try simp only [Act.put, List.setIfInBounds_toArray, List.set_cons_zero, List.set_cons_succ]
            refine later_skip (i := 38) (d := 59) (by kernel_rfl) (by kernel_rfl) (by kernel_rfl) (by kernel_rfl) (fun _ _ _ h => h) (by rfl) ?_
            try simp only [Act.put, List.setIfInBounds_toArray, List.set_cons_zero, List.set_cons_succ]
            refine later_skip (i := 39) (d := 60) (by kernel_rfl) (by kernel_rfl) (by kernel_rfl) (by kernel_rfl) (fun _ _ _ h => h) (by rfl) ?_
            try simp only [Act.put, List.setIfInBounds_toArray, List.set_cons_zero, List.set_cons_succ]
            refine later_skip (i := 40) (d := 61) (by kernel_rfl) (by kernel_rfl) (by kernel_rfl) (by kernel_rfl) (fun _ _ _ h => h) (by rfl) ?_
            try simp only [Act.put, List.setIfInBounds_toArray, List.set_cons_zero, List.set_cons_succ]
            refine later_take (i := 41) (d := 62) (v := ?_) (by kernel_rfl) (by kernel_rfl) (by kernel_rfl) (by kernel_rfl) (fun _ _ _ h => h) (fun oi hoi => ?_) ?_
            rotate_left
            · simp at hoi
              subst hoi
              refine ⟨by rfl, fun w' hw' => ?_⟩
              go_simp
              all_goals rfl
            try simp only [Act.put, List.setIfInBounds_toArray, List.set_cons_zero, List.set_cons_succ]
            refine later_done (by kernel_rfl) ?_ _
            go_wp2_with fail
            go_ret
            exact ⟨ret_bool' HE.out.symm, unhide HB⟩
          | true =>
            have HOKS := hide hok
            clear hok
            obtain ⟨ky, hky⟩ : ∃ ky, keys.getD nq ByteArray.empty = ky := ⟨_, rfl⟩
            have HKY := hide hky
            by_cases hkk : ky = mkKey sec
            · obtain ⟨ah, hah⟩ : ∃ ah, secAt (own.take j) (nq : Int) = ah := ⟨_, rfl⟩
              have HAH := hide hah
              by_cases hae : ah = ByteArray.empty
              · have HFJ : Hid (fitJ keys own (chainOf (leafOf (k : Int))) j = true) := by show _ = _; rw [HFD.out, HNQ.out, hky, hkk, hah, hae, HOKS.out, decide_eq_true HIN.out]; simp
                subst hae
                have hat : (ByteArray.empty).toList = [] := nil_text
                subst hkk
                clear hky hah
                go_wp2_with fail
                try rw [hW]
                refine wp_region_later (by kernel_rfl) ?_
                refine later_take (i := 0) (d := 21) (v := ?_) (by kernel_rfl) (by kernel_rfl) (by kernel_rfl) (by kernel_rfl) (fun _ _ _ h => h) (fun oi hoi => ?_) ?_
                rotate_left
                · simp at hoi
                  subst hoi
                  refine ⟨by rfl, fun w' hw' => ?_⟩
                  go_simp
                  all_goals rfl
                try simp only [Act.put, List.setIfInBounds_toArray, List.set_cons_zero, List.set_cons_succ]
                refine later_take (i := 1) (d := 22) (v := ?_) (by kernel_rfl) (by kernel_rfl) (by kernel_rfl) (by kernel_rfl) (fun _ _ _ h => h) (fun oi hoi => ?_) ?_
                rotate_left
                · simp at hoi
                  subst hoi
                  refine ⟨by rfl, fun w' hw' => ?_⟩
                  have hx := Blk.below (unhide B) hw'
                  have x0 := hx.cell 0
                  simp only [List.getElem?_toArray, List.getElem?_cons_zero] at x0
                  go_simp
                  all_goals rfl
                try simp only [Act.put, List.setIfInBounds_toArray, List.set_cons_zero, List.set_cons_succ]
                refine later_take (i := 2) (d := 23) (v := ?_) (by kernel_rfl) (by kernel_rfl) (by kernel_rfl) (by kernel_rfl) (fun _ _ _ h => h) (fun oi hoi => ?_) ?_
                rotate_left
                · simp at hoi
                  subst hoi
                  refine ⟨by rfl, fun w' hw' => ?_⟩
                  go_simp
                  all_goals rfl
                try simp only [Act.put, List.setIfInBounds_toArray, List.set_cons_zero, List.set_cons_succ]
                refine later_take (i := 3) (d := 24) (v := ?_) (by kernel_rfl) (by kernel_rfl) (by kernel_rfl) (by kernel_rfl) (fun _ _ _ h => h) (fun oi hoi => ?_) ?_
                rotate_left
                · simp at hoi
                  subst hoi
                  refine ⟨by rfl, fun w' hw' => ?_⟩
                  go_simp
                  all_goals rfl
                try simp only [Act.put, List.setIfInBounds_toArray, List.set_cons_zero, List.set_cons_succ]
                refine later_take (i := 4) (d := 25) (v := ?_) (by kernel_rfl) (by kernel_rfl) (by kernel_rfl) (by kernel_rfl) (fun _ _ _ h => h) (fun oi hoi => ?_) ?_
                rotate_left
                · simp at hoi
                  subst hoi
                  refine ⟨by rfl, fun w' hw' => ?_⟩
                  go_simp
                  all_goals rfl
                try simp only [Act.put, List.setIfInBounds_toArray, List.set_cons_zero, List.set_cons_succ]
                refine later_take (i := 5) (d := 26) (v := ?_) (by kernel_rfl) (by kernel_rfl) (by kernel_rfl) (by kernel_rfl) (fun _ _ _ h => h) (fun oi hoi => ?_) ?_
                rotate_left
                · simp at hoi
                  subst hoi
                  refine ⟨by rfl, fun w' hw' => ?_⟩
                  go_simp
                  all_goals rfl
                try simp only [Act.put, List.setIfInBounds_toArray, List.set_cons_zero, List.set_cons_succ]
                refine later_take (i := 7) (d := 28) (v := ?_) (by kernel_rfl) (by kernel_rfl) (by kernel_rfl) (by kernel_rfl) (fun _ _ _ h => h) (fun oi hoi => ?_) ?_
                rotate_left
                · simp at hoi
                  subst hoi
                  refine ⟨by rfl, fun w' hw' => ?_⟩
                  go_simp
                  all_goals rfl
                try simp only [Act.put, List.setIfInBounds_toArray, List.set_cons_zero, List.set_cons_succ]
                refine later_take (i := 8) (d := 29) (v := ?_) (by kernel_rfl) (by kernel_rfl) (by kernel_rfl) (by kernel_rfl) (fun _ _ _ h => h) (fun oi hoi => ?_) ?_
                rotate_left
                · simp at hoi
                  subst hoi
                  refine ⟨by rfl, fun w' hw' => ?_⟩
                  have hx := Blk.below (unhide B) hw'
                  have x0 := hx.cell 0
                  simp only [List.getElem?_toArray, List.getElem?_cons_zero] at x0
                  go_simp
                  all_goals rfl
                try simp only [Act.put, List.setIfInBounds_toArray, List.set_cons_zero, List.set_cons_succ]
                refine later_one (i := 6) (by kernel_rfl) (fun oi K hoi hK => ?_)
                simp at hoi
                subst hoi
                refine ⟨by rfl, ?_⟩
                go_simp
                refine (sTreUp_any (lf : Int) _).mono ?_
                rintro e wu ⟨vu, rfl, hou, hb⟩
                go_simp
                refine hK.out _ _ hb ?_
                clear hK
                have V := hide hou.irow
                clear hou
                replace A := hide ((unhide A).below hb)
                replace B := hide ((unhide B).below hb)
                replace HB := hide (HB.out.trans (hb.mono HB.out.size))
                clear hb
                try simp only [Act.put, List.setIfInBounds_toArray, List.set_cons_zero, List.set_cons_succ]
                refine later_one (i := 9) (by kernel_rfl) (fun oi K hoi hK => ?_)
                simp at hoi
                subst hoi
                refine ⟨by rfl, ?_⟩
                go_simp
                refine (l4In_any vu (upOf (lf : Int)) (nq : Int) _ (unhide V)).mono ?_
                rw [HUP.out]
                rintro e wz ⟨rfl, rfl⟩
                go_simp
                refine hK.out _ _ (Below.refl _ _) ?_
                clear hK
                clear V
                try simp only [Act.put, List.setIfInBounds_toArray, List.set_cons_zero, List.set_cons_succ]
                refine later_take (i := 10) (d := 31) (v := ?_) (by kernel_rfl) (by kernel_rfl) (by kernel_rfl) (by kernel_rfl) (fun _ _ _ h => h) (fun oi hoi => ?_) ?_
                rotate_left
                · simp at hoi
                  subst hoi
                  refine ⟨by rfl, fun w' hw' => ?_⟩
                  go_simp
                  all_goals rfl
                try simp only [Act.put, List.setIfInBounds_toArray, List.set_cons_zero, List.set_cons_succ]
                refine later_take (i := 11) (d := 32) (v := ?_) (by kernel_rfl) (by kernel_rfl) (by kernel_rfl) (by kernel_rfl) (fun _ _ _ h => h) (fun oi hoi => ?_) ?_
                rotate_left
                · simp at hoi
                  subst hoi
                  refine ⟨by rfl, fun w' hw' => ?_⟩
                  go_simp
                  all_goals rfl
                try simp only [Act.put, List.setIfInBounds_toArray, List.set_cons_zero, List.set_cons_succ]
                refine later_take (i := 12) (d := 33) (v := ?_) (by kernel_rfl) (by kernel_rfl) (by kernel_rfl) (by kernel_rfl) (fun _ _ _ h => h) (fun oi hoi => ?_) ?_
                rotate_left
                · simp at hoi
                  subst hoi
                  refine ⟨by rfl, fun w' hw' => ?_⟩
                  go_simp
                  all_goals rfl
                try simp only [Act.put, List.setIfInBounds_toArray, List.set_cons_zero, List.set_cons_succ]
                refine later_take (i := 13) (d := 34) (v := ?_) (by kernel_rfl) (by kernel_rfl) (by kernel_rfl) (by kernel_rfl) (fun _ _ _ h => h) (fun oi hoi => ?_) ?_
                rotate_left
                · simp at hoi
                  subst hoi
                  refine ⟨by rfl, fun w' hw' => ?_⟩
                  go_simp
                  all_goals rfl
                try simp only [Act.put, List.setIfInBounds_toArray, List.set_cons_zero, List.set_cons_succ]
                refine later_take (i := 14) (d := 35) (v := ?_) (by kernel_rfl) (by kernel_rfl) (by kernel_rfl) (by kernel_rfl) (fun _ _ _ h => h) (fun oi hoi => ?_) ?_
                rotate_left
                · simp at hoi
                  subst hoi
                  refine ⟨by rfl, fun w' hw' => ?_⟩
                  have hx := Blk.below (unhide B) hw'
                  have x1 := hx.cell 1
                  simp only [List.getElem?_toArray, List.getElem?_cons_succ, List.getElem?_cons_zero] at x1
                  go_simp
                  all_goals rfl
                try simp only [Act.put, List.setIfInBounds_toArray, List.set_cons_zero, List.set_cons_succ]
                refine later_one (i := 15) (by kernel_rfl) (fun oi K hoi hK => ?_)
                simp at hoi
                subst hoi
                refine ⟨by rfl, ?_⟩
                go_simp
                refine (sSecOk_any sec _ HSM.out).mono ?_
                rw [HOKS.out]
                rintro e w5 ⟨rfl, hb⟩
                go_simp
                refine hK.out _ _ hb ?_
                clear hK
                replace A := hide ((unhide A).below hb)
                replace B := hide ((unhide B).below hb)
                replace HB := hide (HB.out.trans (hb.mono HB.out.size))
                clear hb
                try simp only [Act.put, List.setIfInBounds_toArray, List.set_cons_zero, List.set_cons_succ]
                refine later_take (i := 16) (d := 37) (v := ?_) (by kernel_rfl) (by kernel_rfl) (by kernel_rfl) (by kernel_rfl) (fun _ _ _ h => h) (fun oi hoi => ?_) ?_
                rotate_left
                · simp at hoi
                  subst hoi
                  refine ⟨by rfl, fun w' hw' => ?_⟩
                  go_simp
                  all_goals rfl
                try simp only [Act.put, List.setIfInBounds_toArray, List.set_cons_zero, List.set_cons_succ]
                refine later_take (i := 17) (d := 38) (v := ?_) (by kernel_rfl) (by kernel_rfl) (by kernel_rfl) (by kernel_rfl) (fun _ _ _ h => h) (fun oi hoi => ?_) ?_
                rotate_left
                · simp at hoi
                  subst hoi
                  refine ⟨by rfl, fun w' hw' => ?_⟩
                  go_simp
                  all_goals rfl
                try simp only [Act.put, List.setIfInBounds_toArray, List.set_cons_zero, List.set_cons_succ]
                refine later_take (i := 18) (d := 39) (v := ?_) (by kernel_rfl) (by kernel_rfl) (by kernel_rfl) (by kernel_rfl) (fun _ _ _ h => h) (fun oi hoi => ?_) ?_
                rotate_left
                · simp at hoi
                  subst hoi
                  refine ⟨by rfl, fun w' hw' => ?_⟩
                  go_simp
                  all_goals rfl
                try simp only [Act.put, List.setIfInBounds_toArray, List.set_cons_zero, List.set_cons_succ]
                refine later_take (i := 19) (d := 40) (v := ?_) (by kernel_rfl) (by kernel_rfl) (by kernel_rfl) (by kernel_rfl) (fun _ _ _ h => h) (fun oi hoi => ?_) ?_
                rotate_left
                · simp at hoi
                  subst hoi
                  refine ⟨by rfl, fun w' hw' => ?_⟩
                  go_simp
                  all_goals rfl
                try simp only [Act.put, List.setIfInBounds_toArray, List.set_cons_zero, List.set_cons_succ]
                refine later_take (i := 20) (d := 41) (v := ?_) (by kernel_rfl) (by kernel_rfl) (by kernel_rfl) (by kernel_rfl) (fun _ _ _ h => h) (fun oi hoi => ?_) ?_
                rotate_left
                · simp at hoi
                  subst hoi
                  refine ⟨by rfl, fun w' hw' => ?_⟩
                  go_simp
                  all_goals rfl
                try simp only [Act.put, List.setIfInBounds_toArray, List.set_cons_zero, List.set_cons_succ]
                refine later_take (i := 21) (d := 42) (v := ?_) (by kernel_rfl) (by kernel_rfl) (by kernel_rfl) (by kernel_rfl) (fun _ _ _ h => h) (fun oi hoi => ?_) ?_
                rotate_left
                · simp at hoi
                  subst hoi
                  refine ⟨by rfl, fun w' hw' => ?_⟩
                  have hx := Blk.below (unhide A) hw'
                  have x2 := hx.cell 2
                  simp only [List.getElem?_toArray, List.getElem?_cons_succ, List.getElem?_cons_zero] at x2
                  go_simp
                  all_goals rfl
                try simp only [Act.put, List.setIfInBounds_toArray, List.set_cons_zero, List.set_cons_succ]
                refine later_take (i := 22) (d := 43) (v := ?_) (by kernel_rfl) (by kernel_rfl) (by kernel_rfl) (by kernel_rfl) (fun _ _ _ h => h) (fun oi hoi => ?_) ?_
                rotate_left
                · simp at hoi
                  subst hoi
                  refine ⟨by rfl, fun w' hw' => ?_⟩
                  go_simp
                  all_goals rfl
                try simp only [Act.put, List.setIfInBounds_toArray, List.set_cons_zero, List.set_cons_succ]
                refine later_take (i := 23) (d := 44) (v := ?_) (by kernel_rfl) (by kernel_rfl) (by kernel_rfl) (by kernel_rfl) (fun _ _ _ h => h) (fun oi hoi => ?_) ?_
                rotate_left
                · simp at hoi
                  subst hoi
                  refine ⟨by rfl, fun w' hw' => ?_⟩
                  have hx := Blk.below (unhide B) hw'
                  have x0 := hx.cell 0
                  simp only [List.getElem?_toArray, List.getElem?_cons_zero] at x0
                  go_simp
                  all_goals rfl
                try simp only [Act.put, List.setIfInBounds_toArray, List.set_cons_zero, List.set_cons_succ]
                refine later_take (i := 24) (d := 45) (v := ?_) (by kernel_rfl) (by kernel_rfl) (by kernel_rfl) (by kernel_rfl) (fun _ _ _ h => h) (fun oi hoi => ?_) ?_
                rotate_left
                · simp at hoi
                  subst hoi
                  refine ⟨by rfl, fun w' hw' => ?_⟩
                  go_simp
                  all_goals rfl
                try simp only [Act.put, List.setIfInBounds_toArray, List.set_cons_zero, List.set_cons_succ]
                refine later_take (i := 25) (d := 46) (v := ?_) (by kernel_rfl) (by kernel_rfl) (by kernel_rfl) (by kernel_rfl) (fun _ _ _ h => h) (fun oi hoi => ?_) ?_
                rotate_left
                · simp at hoi
                  subst hoi
                  refine ⟨by rfl, fun w' hw' => ?_⟩
                  have hx := ((unhide HK).below ((unhide HB).trans (hw'.mono (unhide HB).size))).form
                  obtain ⟨ax, cx, qx, _, _, qy⟩ := hx
                  rw [HL.out] at qx qy
                  simp only [Value.slice.injEq] at qx
                  obtain ⟨rfl, _, rfl⟩ := qx
                  obtain ⟨a', ha', hcx⟩ := qy nq (by omega)
                  cases ha'
                  rw [HKY.out] at hcx
                  go_simp
                  all_goals rfl
                try simp only [Act.put, List.setIfInBounds_toArray, List.set_cons_zero, List.set_cons_succ]
                refine later_take (i := 26) (d := 47) (v := ?_) (by kernel_rfl) (by kernel_rfl) (by kernel_rfl) (by kernel_rfl) (fun _ _ _ h => h) (fun oi hoi => ?_) ?_
                rotate_left
                · simp at hoi
                  subst hoi
                  refine ⟨by rfl, fun w' hw' => ?_⟩
                  go_simp
                  all_goals rfl
                try simp only [Act.put, List.setIfInBounds_toArray, List.set_cons_zero, List.set_cons_succ]
                refine later_take (i := 27) (d := 48) (v := ?_) (by kernel_rfl) (by kernel_rfl) (by kernel_rfl) (by kernel_rfl) (fun _ _ _ h => h) (fun oi hoi => ?_) ?_
                rotate_left
                · simp at hoi
                  subst hoi
                  refine ⟨by rfl, fun w' hw' => ?_⟩
                  have hx := Blk.below (unhide B) hw'
                  have x1 := hx.cell 1
                  simp only [List.getElem?_toArray, List.getElem?_cons_succ, List.getElem?_cons_zero] at x1
                  go_simp
                  all_goals rfl
                try simp only [Act.put, List.setIfInBounds_toArray, List.set_cons_zero, List.set_cons_succ]
                refine later_one (i := 28) (by kernel_rfl) (fun oi K hoi hK => ?_)
                simp at hoi
                subst hoi
                refine ⟨by rfl, ?_⟩
                go_simp
                refine (sMakKey_any sec _ HSM.out).mono ?_
                rintro e w6 ⟨rfl, hb⟩
                go_simp
                refine hK.out _ _ hb ?_
                clear hK
                replace A := hide ((unhide A).below hb)
                replace B := hide ((unhide B).below hb)
                replace HB := hide (HB.out.trans (hb.mono HB.out.size))
                clear hb
                try simp only [Act.put, List.setIfInBounds_toArray, List.set_cons_zero, List.set_cons_succ]
                refine later_take (i := 29) (d := 50) (v := ?_) (by kernel_rfl) (by kernel_rfl) (by kernel_rfl) (by kernel_rfl) (fun _ _ _ h => h) (fun oi hoi => ?_) ?_
                rotate_left
                · simp at hoi
                  subst hoi
                  refine ⟨by rfl, fun w' hw' => ?_⟩
                  go_simp
                  all_goals rfl
                try simp only [Act.put, List.setIfInBounds_toArray, List.set_cons_zero, List.set_cons_succ]
                refine later_take (i := 30) (d := 51) (v := ?_) (by kernel_rfl) (by kernel_rfl) (by kernel_rfl) (by kernel_rfl) (fun _ _ _ h => h) (fun oi hoi => ?_) ?_
                rotate_left
                · simp at hoi
                  subst hoi
                  refine ⟨by rfl, fun w' hw' => ?_⟩
                  go_simp
                  all_goals rfl
                try simp only [Act.put, List.setIfInBounds_toArray, List.set_cons_zero, List.set_cons_succ]
                refine later_take (i := 31) (d := 52) (v := ?_) (by kernel_rfl) (by kernel_rfl) (by kernel_rfl) (by kernel_rfl) (fun _ _ _ h => h) (fun oi hoi => ?_) ?_
                rotate_left
                · simp at hoi
                  subst hoi
                  refine ⟨by rfl, fun w' hw' => ?_⟩
                  go_simp
                  all_goals rfl
                try simp only [Act.put, List.setIfInBounds_toArray, List.set_cons_zero, List.set_cons_succ]
                refine later_take (i := 32) (d := 53) (v := ?_) (by kernel_rfl) (by kernel_rfl) (by kernel_rfl) (by kernel_rfl) (fun _ _ _ h => h) (fun oi hoi => ?_) ?_
                rotate_left
                · simp at hoi
                  subst hoi
                  refine ⟨by rfl, fun w' hw' => ?_⟩
                  go_simp
                  all_goals rfl
                try simp only [Act.put, List.setIfInBounds_toArray, List.set_cons_zero, List.set_cons_succ]
                refine later_take (i := 33) (d := 54) (v := ?_) (by kernel_rfl) (by kernel_rfl) (by kernel_rfl) (by kernel_rfl) (fun _ _ _ h => h) (fun oi hoi => ?_) ?_
                rotate_left
                · simp at hoi
                  subst hoi
                  refine ⟨by rfl, fun w' hw' => ?_⟩
                  have hx := Blk.below (unhide A) hw'
                  have x3 := hx.cell 3
                  simp only [List.getElem?_toArray, List.getElem?_cons_succ, List.getElem?_cons_zero] at x3
                  go_simp
                  all_goals rfl
                try simp only [Act.put, List.setIfInBounds_toArray, List.set_cons_zero, List.set_cons_succ]
                refine later_take (i := 34) (d := 55) (v := ?_) (by kernel_rfl) (by kernel_rfl) (by kernel_rfl) (by kernel_rfl) (fun _ _ _ h => h) (fun oi hoi => ?_) ?_
                rotate_left
                · simp at hoi
                  subst hoi
                  refine ⟨by rfl, fun w' hw' => ?_⟩
                  go_simp
                  all_goals rfl
                try simp only [Act.put, List.setIfInBounds_toArray, List.set_cons_zero, List.set_cons_succ]
                refine later_take (i := 35) (d := 56) (v := ?_) (by kernel_rfl) (by kernel_rfl) (by kernel_rfl) (by kernel_rfl) (fun _ _ _ h => h) (fun oi hoi => ?_) ?_
                rotate_left
                · simp at hoi
                  subst hoi
                  refine ⟨by rfl, fun w' hw' => ?_⟩
                  go_simp
                  all_goals rfl
                try simp only [Act.put, List.setIfInBounds_toArray, List.set_cons_zero, List.set_cons_succ]
                refine later_take (i := 36) (d := 57) (v := ?_) (by kernel_rfl) (by kernel_rfl) (by kernel_rfl) (by kernel_rfl) (fun _ _ _ h => h) (fun oi hoi => ?_) ?_
                rotate_left
                · simp at hoi
                  subst hoi
                  refine ⟨by rfl, fun w' hw' => ?_⟩
                  go_simp
                  all_goals rfl
                try simp only [Act.put, List.setIfInBounds_toArray, List.set_cons_zero, List.set_cons_succ]
                refine later_take (i := 37) (d := 58) (v := ?_) (by kernel_rfl) (by kernel_rfl) (by kernel_rfl) (by kernel_rfl) (fun _ _ _ h => h) (fun oi hoi => ?_) ?_
                rotate_left
                · simp at hoi
                  subst hoi
                  refine ⟨by rfl, fun w' hw' => ?_⟩
                  go_simp
                  all_goals rfl
                try simp only [Act.put, List.setIfInBounds_toArray, List.set_cons_zero, List.set_cons_succ]
                refine later_take (i := 38) (d := 59) (v := ?_) (by kernel_rfl) (by kernel_rfl) (by kernel_rfl) (by kernel_rfl) (fun _ _ _ h => h) (fun oi hoi => ?_) ?_
                rotate_left
                · simp at hoi
                  subst hoi
                  refine ⟨by rfl, fun w' hw' => ?_⟩
                  have hx := Blk.below (unhide B) hw'
                  have x0 := hx.cell 0
                  simp only [List.getElem?_toArray, List.getElem?_cons_zero] at x0
                  go_simp
                  all_goals rfl
                try simp only [Act.put, List.setIfInBounds_toArray, List.set_cons_zero, List.set_cons_succ]
                refine later_one (i := 39) (by kernel_rfl) (fun oi K hoi hK => ?_)
                simp at hoi
                subst hoi
                refine ⟨by rfl, ?_⟩
                go_simp
                refine (l4Own_any false 0 0 _ _ (own.take j) ⟨#[]⟩ ⟨#[]⟩ (nq : Int) _ (MRow.takeJ ((unhide HO).below (unhide HB)) hjl) ⟨_, _, _, rfl⟩).mono ?_
                rw [HAH.out]
                rintro e w7 ⟨rfl, hb⟩
                go_simp
                refine hK.out _ _ hb ?_
                clear hK
                replace A := hide ((unhide A).below hb)
                replace B := hide ((unhide B).below hb)
                replace HB := hide (HB.out.trans (hb.mono HB.out.size))
                clear hb
                try simp only [Act.put, List.setIfInBounds_toArray, List.set_cons_zero, List.set_cons_succ]
                refine later_take (i := 40) (d := 61) (v := ?_) (by kernel_rfl) (by kernel_rfl) (by kernel_rfl) (by kernel_rfl) (fun _ _ _ h => h) (fun oi hoi => ?_) ?_
                rotate_left
                · simp at hoi
                  subst hoi
                  refine ⟨by rfl, fun w' hw' => ?_⟩
                  go_simp
                  all_goals rfl
                try simp only [Act.put, List.setIfInBounds_toArray, List.set_cons_zero, List.set_cons_succ]
                refine later_take (i := 41) (d := 62) (v := ?_) (by kernel_rfl) (by kernel_rfl) (by kernel_rfl) (by kernel_rfl) (fun _ _ _ h => h) (fun oi hoi => ?_) ?_
                rotate_left
                · simp at hoi
                  subst hoi
                  refine ⟨by rfl, fun w' hw' => ?_⟩
                  go_simp
                  all_goals rfl
                try simp only [Act.put, List.setIfInBounds_toArray, List.set_cons_zero, List.set_cons_succ]
                refine later_done (by kernel_rfl) ?_ _
                go_wp2_with fail
                go_roundw
                case rel => exact ⟨j + 1, by omega, by simp, HNX.out HFJ.out, (unhide A), HB⟩
                case measure => simp [intOf]; omega
              · have HE : Hid (fitsS keys own (chainOf (leafOf (k : Int))) = false) := HNO.out (by rw [HFD.out]; rw [hah, decide_eq_false hae]; simp)
                have hat : ¬ ah.toList = [] := no_text hae
                have hat2 : ah.toList.isEmpty = false := by simpa using no_text hae
                subst hkk
                clear hky hah hae
                go_wp2_with fail
                try rw [hW]
                refine wp_region_later (by kernel_rfl) ?_
                refine later_take (i := 0) (d := 21) (v := ?_) (by kernel_rfl) (by kernel_rfl) (by kernel_rfl) (by kernel_rfl) (fun _ _ _ h => h) (fun oi hoi => ?_) ?_
                rotate_left
                · simp at hoi
                  subst hoi
                  refine ⟨by rfl, fun w' hw' => ?_⟩
                  go_simp
                  all_goals rfl
                try simp only [Act.put, List.setIfInBounds_toArray, List.set_cons_zero, List.set_cons_succ]
                refine later_take (i := 1) (d := 22) (v := ?_) (by kernel_rfl) (by kernel_rfl) (by kernel_rfl) (by kernel_rfl) (fun _ _ _ h => h) (fun oi hoi => ?_) ?_
                rotate_left
                · simp at hoi
                  subst hoi
                  refine ⟨by rfl, fun w' hw' => ?_⟩
                  have hx := Blk.below (unhide B) hw'
                  have x0 := hx.cell 0
                  simp only [List.getElem?_toArray, List.getElem?_cons_zero] at x0
                  go_simp
                  all_goals rfl
                try simp only [Act.put, List.setIfInBounds_toArray, List.set_cons_zero, List.set_cons_succ]
                refine later_take (i := 2) (d := 23) (v := ?_) (by kernel_rfl) (by kernel_rfl) (by kernel_rfl) (by kernel_rfl) (fun _ _ _ h => h) (fun oi hoi => ?_) ?_
                rotate_left
                · simp at hoi
                  subst hoi
                  refine ⟨by rfl, fun w' hw' => ?_⟩
                  go_simp
                  all_goals rfl
                try simp only [Act.put, List.setIfInBounds_toArray, List.set_cons_zero, List.set_cons_succ]
                refine later_take (i := 3) (d := 24) (v := ?_) (by kernel_rfl) (by kernel_rfl) (by kernel_rfl) (by kernel_rfl) (fun _ _ _ h => h) (fun oi hoi => ?_) ?_
                rotate_left
                · simp at hoi
                  subst hoi
                  refine ⟨by rfl, fun w' hw' => ?_⟩
                  go_simp
                  all_goals rfl
                try simp only [Act.put, List.setIfInBounds_toArray, List.set_cons_zero, List.set_cons_succ]
                refine later_take (i := 4) (d := 25) (v := ?_) (by kernel_rfl) (by kernel_rfl) (by kernel_rfl) (by kernel_rfl) (fun _ _ _ h => h) (fun oi hoi => ?_) ?_
                rotate_left
                · simp at hoi
                  subst hoi
                  refine ⟨by rfl, fun w' hw' => ?_⟩
                  go_simp
                  all_goals rfl
                try simp only [Act.put, List.setIfInBounds_toArray, List.set_cons_zero, List.set_cons_succ]
                refine later_take (i := 5) (d := 26) (v := ?_) (by kernel_rfl) (by kernel_rfl) (by kernel_rfl) (by kernel_rfl) (fun _ _ _ h => h) (fun oi hoi => ?_) ?_
                rotate_left
                · simp at hoi
                  subst hoi
                  refine ⟨by rfl, fun w' hw' => ?_⟩
                  go_simp
                  all_goals rfl
                try simp only [Act.put, List.setIfInBounds_toArray, List.set_cons_zero, List.set_cons_succ]
                refine later_take (i := 7) (d := 28) (v := ?_) (by kernel_rfl) (by kernel_rfl) (by kernel_rfl) (by kernel_rfl) (fun _ _ _ h => h) (fun oi hoi => ?_) ?_
                rotate_left
                · simp at hoi
                  subst hoi
                  refine ⟨by rfl, fun w' hw' => ?_⟩
                  go_simp
                  all_goals rfl
                try simp only [Act.put, List.setIfInBounds_toArray, List.set_cons_zero, List.set_cons_succ]
                refine later_take (i := 8) (d := 29) (v := ?_) (by kernel_rfl) (by kernel_rfl) (by kernel_rfl) (by kernel_rfl) (fun _ _ _ h => h) (fun oi hoi => ?_) ?_
                rotate_left
                · simp at hoi
                  subst hoi
                  refine ⟨by rfl, fun w' hw' => ?_⟩
                  have hx := Blk.below (unhide B) hw'
                  have x0 := hx.cell 0
                  simp only [List.getElem?_toArray, List.getElem?_cons_zero] at x0
                  go_simp
                  all_goals rfl
                try simp only [Act.put, List.setIfInBounds_toArray, List.set_cons_zero, List.set_cons_succ]
                refine later_one (i := 6) (by kernel_rfl) (fun oi K hoi hK => ?_)
                simp at hoi
                subst hoi
                refine ⟨by rfl, ?_⟩
                go_simp
                refine (sTreUp_any (lf : Int) _).mono ?_
                rintro e wu ⟨vu, rfl, hou, hb⟩
                go_simp
                refine hK.out _ _ hb ?_
                clear hK
                have V := hide hou.irow
                clear hou
                replace A := hide ((unhide A).below hb)
                replace B := hide ((unhide B).below hb)
                replace HB := hide (HB.out.trans (hb.mono HB.out.size))
                clear hb
                try simp only [Act.put, List.setIfInBounds_toArray, List.set_cons_zero, List.set_cons_succ]
                refine later_one (i := 9) (by kernel_rfl) (fun oi K hoi hK => ?_)
                simp at hoi
                subst hoi
                refine ⟨by rfl, ?_⟩
                go_simp
                refine (l4In_any vu (upOf (lf : Int)) (nq : Int) _ (unhide V)).mono ?_
                rw [HUP.out]
                rintro e wz ⟨rfl, rfl⟩
                go_simp
                refine hK.out _ _ (Below.refl _ _) ?_
                clear hK
                clear V
                try simp only [Act.put, List.setIfInBounds_toArray, List.set_cons_zero, List.set_cons_succ]
                refine later_take (i := 10) (d := 31) (v := ?_) (by kernel_rfl) (by kernel_rfl) (by kernel_rfl) (by kernel_rfl) (fun _ _ _ h => h) (fun oi hoi => ?_) ?_
                rotate_left
                · simp at hoi
                  subst hoi
                  refine ⟨by rfl, fun w' hw' => ?_⟩
                  go_simp
                  all_goals rfl
                try simp only [Act.put, List.setIfInBounds_toArray, List.set_cons_zero, List.set_cons_succ]
                refine later_take (i := 11) (d := 32) (v := ?_) (by kernel_rfl) (by kernel_rfl) (by kernel_rfl) (by kernel_rfl) (fun _ _ _ h => h) (fun oi hoi => ?_) ?_
                rotate_left
                · simp at hoi
                  subst hoi
                  refine ⟨by rfl, fun w' hw' => ?_⟩
                  go_simp
                  all_goals rfl
                try simp only [Act.put, List.setIfInBounds_toArray, List.set_cons_zero, List.set_cons_succ]
                refine later_take (i := 12) (d := 33) (v := ?_) (by kernel_rfl) (by kernel_rfl) (by kernel_rfl) (by kernel_rfl) (fun _ _ _ h => h) (fun oi hoi => ?_) ?_
                rotate_left
                · simp at hoi
                  subst hoi
                  refine ⟨by rfl, fun w' hw' => ?_⟩
                  go_simp
                  all_goals rfl
                try simp only [Act.put, List.setIfInBounds_toArray, List.set_cons_zero, List.set_cons_succ]
                refine later_take (i := 13) (d := 34) (v := ?_) (by kernel_rfl) (by kernel_rfl) (by kernel_rfl) (by kernel_rfl) (fun _ _ _ h => h) (fun oi hoi => ?_) ?_
                rotate_left
                · simp at hoi
                  subst hoi
                  refine ⟨by rfl, fun w' hw' => ?_⟩
                  go_simp
                  all_goals rfl
                try simp only [Act.put, List.setIfInBounds_toArray, List.set_cons_zero, List.set_cons_succ]
                refine later_take (i := 14) (d := 35) (v := ?_) (by kernel_rfl) (by kernel_rfl) (by kernel_rfl) (by kernel_rfl) (fun _ _ _ h => h) (fun oi hoi => ?_) ?_
                rotate_left
                · simp at hoi
                  subst hoi
                  refine ⟨by rfl, fun w' hw' => ?_⟩
                  have hx := Blk.below (unhide B) hw'
                  have x1 := hx.cell 1
                  simp only [List.getElem?_toArray, List.getElem?_cons_succ, List.getElem?_cons_zero] at x1
                  go_simp
                  all_goals rfl
                try simp only [Act.put, List.setIfInBounds_toArray, List.set_cons_zero, List.set_cons_succ]
                refine later_one (i := 15) (by kernel_rfl) (fun oi K hoi hK => ?_)
                simp at hoi
                subst hoi
                refine ⟨by rfl, ?_⟩
                go_simp
                refine (sSecOk_any sec _ HSM.out).mono ?_
                rw [HOKS.out]
                rintro e w5 ⟨rfl, hb⟩
                go_simp
                refine hK.out _ _ hb ?_
                clear hK
                replace A := hide ((unhide A).below hb)
                replace B := hide ((unhide B).below hb)
                replace HB := hide (HB.out.trans (hb.mono HB.out.size))
                clear hb
                try simp only [Act.put, List.setIfInBounds_toArray, List.set_cons_zero, List.set_cons_succ]
                refine later_take (i := 16) (d := 37) (v := ?_) (by kernel_rfl) (by kernel_rfl) (by kernel_rfl) (by kernel_rfl) (fun _ _ _ h => h) (fun oi hoi => ?_) ?_
                rotate_left
                · simp at hoi
                  subst hoi
                  refine ⟨by rfl, fun w' hw' => ?_⟩
                  go_simp
                  all_goals rfl
                try simp only [Act.put, List.setIfInBounds_toArray, List.set_cons_zero, List.set_cons_succ]
                refine later_take (i := 17) (d := 38) (v := ?_) (by kernel_rfl) (by kernel_rfl) (by kernel_rfl) (by kernel_rfl) (fun _ _ _ h => h) (fun oi hoi => ?_) ?_
                rotate_left
                · simp at hoi
                  subst hoi
                  refine ⟨by rfl, fun w' hw' => ?_⟩
                  go_simp
                  all_goals rfl
                try simp only [Act.put, List.setIfInBounds_toArray, List.set_cons_zero, List.set_cons_succ]
                refine later_take (i := 18) (d := 39) (v := ?_) (by kernel_rfl) (by kernel_rfl) (by kernel_rfl) (by kernel_rfl) (fun _ _ _ h => h) (fun oi hoi => ?_) ?_
                rotate_left
                · simp at hoi
                  subst hoi
                  refine ⟨by rfl, fun w' hw' => ?_⟩
                  go_simp
                  all_goals rfl
                try simp only [Act.put, List.setIfInBounds_toArray, List.set_cons_zero, List.set_cons_succ]
                refine later_take (i := 19) (d := 40) (v := ?_) (by kernel_rfl) (by kernel_rfl) (by kernel_rfl) (by kernel_rfl) (fun _ _ _ h => h) (fun oi hoi => ?_) ?_
                rotate_left
                · simp at hoi
                  subst hoi
                  refine ⟨by rfl, fun w' hw' => ?_⟩
                  go_simp
                  all_goals rfl
                try simp only [Act.put, List.setIfInBounds_toArray, List.set_cons_zero, List.set_cons_succ]
                refine later_take (i := 20) (d := 41) (v := ?_) (by kernel_rfl) (by kernel_rfl) (by kernel_rfl) (by kernel_rfl) (fun _ _ _ h => h) (fun oi hoi => ?_) ?_
                rotate_left
                · simp at hoi
                  subst hoi
                  refine ⟨by rfl, fun w' hw' => ?_⟩
                  go_simp
                  all_goals rfl
                try simp only [Act.put, List.setIfInBounds_toArray, List.set_cons_zero, List.set_cons_succ]
                refine later_take (i := 21) (d := 42) (v := ?_) (by kernel_rfl) (by kernel_rfl) (by kernel_rfl) (by kernel_rfl) (fun _ _ _ h => h) (fun oi hoi => ?_) ?_
                rotate_left
                · simp at hoi
                  subst hoi
                  refine ⟨by rfl, fun w' hw' => ?_⟩
                  have hx := Blk.below (unhide A) hw'
                  have x2 := hx.cell 2
                  simp only [List.getElem?_toArray, List.getElem?_cons_succ, List.getElem?_cons_zero] at x2
                  go_simp
                  all_goals rfl
                try simp only [Act.put, List.setIfInBounds_toArray, List.set_cons_zero, List.set_cons_succ]
                refine later_take (i := 22) (d := 43) (v := ?_) (by kernel_rfl) (by kernel_rfl) (by kernel_rfl) (by kernel_rfl) (fun _ _ _ h => h) (fun oi hoi => ?_) ?_
                rotate_left
                · simp at hoi
                  subst hoi
                  refine ⟨by rfl, fun w' hw' => ?_⟩
                  go_simp
                  all_goals rfl
                try simp only [Act.put, List.setIfInBounds_toArray, List.set_cons_zero, List.set_cons_succ]
                refine later_take (i := 23) (d := 44) (v := ?_) (by kernel_rfl) (by kernel_rfl) (by kernel_rfl) (by kernel_rfl) (fun _ _ _ h => h) (fun oi hoi => ?_) ?_
                rotate_left
                · simp at hoi
                  subst hoi
                  refine ⟨by rfl, fun w' hw' => ?_⟩
                  have hx := Blk.below (unhide B) hw'
                  have x0 := hx.cell 0
                  simp only [List.getElem?_toArray, List.getElem?_cons_zero] at x0
                  go_simp
                  all_goals rfl
                try simp only [Act.put, List.setIfInBounds_toArray, List.set_cons_zero, List.set_cons_succ]
                refine later_take (i := 24) (d := 45) (v := ?_) (by kernel_rfl) (by kernel_rfl) (by kernel_rfl) (by kernel_rfl) (fun _ _ _ h => h) (fun oi hoi => ?_) ?_
                rotate_left
                · simp at hoi
                  subst hoi
                  refine ⟨by rfl, fun w' hw' => ?_⟩
                  go_simp
                  all_goals rfl
                try simp only [Act.put, List.setIfInBounds_toArray, List.set_cons_zero, List.set_cons_succ]
                refine later_take (i := 25) (d := 46) (v := ?_) (by kernel_rfl) (by kernel_rfl) (by kernel_rfl) (by kernel_rfl) (fun _ _ _ h => h) (fun oi hoi => ?_) ?_
                rotate_left
                · simp at hoi
                  subst hoi
                  refine ⟨by rfl, fun w' hw' => ?_⟩
                  have hx := ((unhide HK).below ((unhide HB).trans (hw'.mono (unhide HB).size))).form
                  obtain ⟨ax, cx, qx, _, _, qy⟩ := hx
                  rw [HL.out] at qx qy
                  simp only [Value.slice.injEq] at qx
                  obtain ⟨rfl, _, rfl⟩ := qx
                  obtain ⟨a', ha', hcx⟩ := qy nq (by omega)
                  cases ha'
                  rw [HKY.out] at hcx
                  go_simp
                  all_goals rfl
                try simp only [Act.put, List.setIfInBounds_toArray, List.set_cons_zero, List.set_cons_succ]
                refine later_take (i := 26) (d := 47) (v := ?_) (by kernel_rfl) (by kernel_rfl) (by kernel_rfl) (by kernel_rfl) (fun _ _ _ h => h) (fun oi hoi => ?_) ?_
                rotate_left
                · simp at hoi
                  subst hoi
                  refine ⟨by rfl, fun w' hw' => ?_⟩
                  go_simp
                  all_goals rfl
                try simp only [Act.put, List.setIfInBounds_toArray, List.set_cons_zero, List.set_cons_succ]
                refine later_take (i := 27) (d := 48) (v := ?_) (by kernel_rfl) (by kernel_rfl) (by kernel_rfl) (by kernel_rfl) (fun _ _ _ h => h) (fun oi hoi => ?_) ?_
                rotate_left
                · simp at hoi
                  subst hoi
                  refine ⟨by rfl, fun w' hw' => ?_⟩
                  have hx := Blk.below (unhide B) hw'
                  have x1 := hx.cell 1
                  simp only [List.getElem?_toArray, List.getElem?_cons_succ, List.getElem?_cons_zero] at x1
                  go_simp
                  all_goals rfl
                try simp only [Act.put, List.setIfInBounds_toArray, List.set_cons_zero, List.set_cons_succ]
                refine later_one (i := 28) (by kernel_rfl) (fun oi K hoi hK => ?_)
                simp at hoi
                subst hoi
                refine ⟨by rfl, ?_⟩
                go_simp
                refine (sMakKey_any sec _ HSM.out).mono ?_
                rintro e w6 ⟨rfl, hb⟩
                go_simp
                refine hK.out _ _ hb ?_
                clear hK
                replace A := hide ((unhide A).below hb)
                replace B := hide ((unhide B).below hb)
                replace HB := hide (HB.out.trans (hb.mono HB.out.size))
                clear hb
                try simp only [Act.put, List.setIfInBounds_toArray, List.set_cons_zero, List.set_cons_succ]
                refine later_take (i := 29) (d := 50) (v := ?_) (by kernel_rfl) (by kernel_rfl) (by kernel_rfl) (by kernel_rfl) (fun _ _ _ h => h) (fun oi hoi => ?_) ?_
                rotate_left
                · simp at hoi
                  subst hoi
                  refine ⟨by rfl, fun w' hw' => ?_⟩
                  go_simp
                  all_goals rfl
                try simp only [Act.put, List.setIfInBounds_toArray, List.set_cons_zero, List.set_cons_succ]
                refine later_take (i := 30) (d := 51) (v := ?_) (by kernel_rfl) (by kernel_rfl) (by kernel_rfl) (by kernel_rfl) (fun _ _ _ h => h) (fun oi hoi => ?_) ?_
                rotate_left
                · simp at hoi
                  subst hoi
                  refine ⟨by rfl, fun w' hw' => ?_⟩
                  go_simp
                  all_goals rfl
                try simp only [Act.put, List.setIfInBounds_toArray, List.set_cons_zero, List.set_cons_succ]
                refine later_take (i := 31) (d := 52) (v := ?_) (by kernel_rfl) (by kernel_rfl) (by kernel_rfl) (by kernel_rfl) (fun _ _ _ h => h) (fun oi hoi => ?_) ?_
                rotate_left
                · simp at hoi
                  subst hoi
                  refine ⟨by rfl, fun w' hw' => ?_⟩
                  go_simp
                  all_goals rfl
                try simp only [Act.put, List.setIfInBounds_toArray, List.set_cons_zero, List.set_cons_succ]
                refine later_take (i := 32) (d := 53) (v := ?_) (by kernel_rfl) (by kernel_rfl) (by kernel_rfl) (by kernel_rfl) (fun _ _ _ h => h) (fun oi hoi => ?_) ?_
                rotate_left
                · simp at hoi
                  subst hoi
                  refine ⟨by rfl, fun w' hw' => ?_⟩
                  go_simp
                  all_goals rfl
                try simp only [Act.put, List.setIfInBounds_toArray, List.set_cons_zero, List.set_cons_succ]
                refine later_take (i := 33) (d := 54) (v := ?_) (by kernel_rfl) (by kernel_rfl) (by kernel_rfl) (by kernel_rfl) (fun _ _ _ h => h) (fun oi hoi => ?_) ?_
                rotate_left
                · simp at hoi
                  subst hoi
                  refine ⟨by rfl, fun w' hw' => ?_⟩
                  have hx := Blk.below (unhide A) hw'
                  have x3 := hx.cell 3
                  simp only [List.getElem?_toArray, List.getElem?_cons_succ, List.getElem?_cons_zero] at x3
                  go_simp
                  all_goals rfl
                try simp only [Act.put, List.setIfInBounds_toArray, List.set_cons_zero, List.set_cons_succ]
                refine later_take (i := 34) (d := 55) (v := ?_) (by kernel_rfl) (by kernel_rfl) (by kernel_rfl) (by kernel_rfl) (fun _ _ _ h => h) (fun oi hoi => ?_) ?_
                rotate_left
                · simp at hoi
                  subst hoi
                  refine ⟨by rfl, fun w' hw' => ?_⟩
                  go_simp
                  all_goals rfl
                try simp only [Act.put, List.setIfInBounds_toArray, List.set_cons_zero, List.set_cons_succ]
                refine later_take (i := 35) (d := 56) (v := ?_) (by kernel_rfl) (by kernel_rfl) (by kernel_rfl) (by kernel_rfl) (fun _ _ _ h => h) (fun oi hoi => ?_) ?_
                rotate_left
                · simp at hoi
                  subst hoi
                  refine ⟨by rfl, fun w' hw' => ?_⟩
                  go_simp
                  all_goals rfl
                try simp only [Act.put, List.setIfInBounds_toArray, List.set_cons_zero, List.set_cons_succ]
                refine later_take (i := 36) (d := 57) (v := ?_) (by kernel_rfl) (by kernel_rfl) (by kernel_rfl) (by kernel_rfl) (fun _ _ _ h => h) (fun oi hoi => ?_) ?_
                rotate_left
                · simp at hoi
                  subst hoi
                  refine ⟨by rfl, fun w' hw' => ?_⟩
                  go_simp
                  all_goals rfl
                try simp only [Act.put, List.setIfInBounds_toArray, List.set_cons_zero, List.set_cons_succ]
                refine later_take (i := 37) (d := 58) (v := ?_) (by kernel_rfl) (by kernel_rfl) (by kernel_rfl) (by kernel_rfl) (fun _ _ _ h => h) (fun oi hoi => ?_) ?_
                rotate_left
                · simp at hoi
                  subst hoi
                  refine ⟨by rfl, fun w' hw' => ?_⟩
                  go_simp
                  all_goals rfl
                try simp only [Act.put, List.setIfInBounds_toArray, List.set_cons_zero, List.set_cons_succ]
                refine later_take (i := 38) (d := 59) (v := ?_) (by kernel_rfl) (by kernel_rfl) (by kernel_rfl) (by kernel_rfl) (fun _ _ _ h => h) (fun oi hoi => ?_) ?_
                rotate_left
                · simp at hoi
                  subst hoi
                  refine ⟨by rfl, fun w' hw' => ?_⟩
                  have hx := Blk.below (unhide B) hw'
                  have x0 := hx.cell 0
                  simp only [List.getElem?_toArray, List.getElem?_cons_zero] at x0
                  go_simp
                  all_goals rfl
                try simp only [Act.put, List.setIfInBounds_toArray, List.set_cons_zero, List.set_cons_succ]
                refine later_one (i := 39) (by kernel_rfl) (fun oi K hoi hK => ?_)
                simp at hoi
                subst hoi
                refine ⟨by rfl, ?_⟩
                go_simp
                refine (l4Own_any false 0 0 _ _ (own.take j) ⟨#[]⟩ ⟨#[]⟩ (nq : Int) _ (MRow.takeJ ((unhide HO).below (unhide HB)) hjl) ⟨_, _, _, rfl⟩).mono ?_
                rw [HAH.out]
                rintro e w7 ⟨rfl, hb⟩
                go_simp
                refine hK.out _ _ hb ?_
                clear hK
                replace A := hide ((unhide A).below hb)
                replace B := hide ((unhide B).below hb)
                replace HB := hide (HB.out.trans (hb.mono HB.out.size))
                clear hb
                try simp only [Act.put, List.setIfInBounds_toArray, List.set_cons_zero, List.set_cons_succ]
                refine later_take (i := 40) (d := 61) (v := ?_) (by kernel_rfl) (by kernel_rfl) (by kernel_rfl) (by kernel_rfl) (fun _ _ _ h => h) (fun oi hoi => ?_) ?_
                rotate_left
                · simp at hoi
                  subst hoi
                  refine ⟨by rfl, fun w' hw' => ?_⟩
                  go_simp
                  all_goals rfl
                try simp only [Act.put, List.setIfInBounds_toArray, List.set_cons_zero, List.set_cons_succ]
                refine later_take (i := 41) (d := 62) (v := ?_) (by kernel_rfl) (by kernel_rfl) (by kernel_rfl) (by kernel_rfl) (fun _ _ _ h => h) (fun oi hoi => ?_) ?_
                rotate_left
                · simp at hoi
                  subst hoi
                  refine ⟨by rfl, fun w' hw' => ?_⟩
                  go_simp
                  all_goals rfl
                try simp only [Act.put, List.setIfInBounds_toArray, List.set_cons_zero, List.set_cons_succ]
                refine later_done (by kernel_rfl) ?_ _
                go_wp2_with fail
                go_ret
                exact ⟨ret_bool' HE.out.symm, unhide HB⟩
            · have HE : Hid (fitsS keys own (chainOf (leafOf (k : Int))) = false) := HNO.out (by rw [HFD.out]; rw [HNQ.out, hky, decide_eq_false hkk]; simp)
              have hkn := str_ne hkk
              clear hky hkk
              go_wp2_with fail
              try rw [hW]
              refine wp_region_later (by kernel_rfl) ?_
              refine later_take (i := 0) (d := 21) (v := ?_) (by kernel_rfl) (by kernel_rfl) (by kernel_rfl) (by kernel_rfl) (fun _ _ _ h => h) (fun oi hoi => ?_) ?_
              rotate_left
              · simp at hoi
                subst hoi
                refine ⟨by rfl, fun w' hw' => ?_⟩
                go_simp
                all_goals rfl
              try simp only [Act.put, List.setIfInBounds_toArray, List.set_cons_zero, List.set_cons_succ]
              refine later_take (i := 1) (d := 22) (v := ?_) (by kernel_rfl) (by kernel_rfl) (by kernel_rfl) (by kernel_rfl) (fun _ _ _ h => h) (fun oi hoi => ?_) ?_
              rotate_left
              · simp at hoi
                subst hoi
                refine ⟨by rfl, fun w' hw' => ?_⟩
                have hx := Blk.below (unhide B) hw'
                have x0 := hx.cell 0
                simp only [List.getElem?_toArray, List.getElem?_cons_zero] at x0
                go_simp
                all_goals rfl
              try simp only [Act.put, List.setIfInBounds_toArray, List.set_cons_zero, List.set_cons_succ]
              refine later_take (i := 2) (d := 23) (v := ?_) (by kernel_rfl) (by kernel_rfl) (by kernel_rfl) (by kernel_rfl) (fun _ _ _ h => h) (fun oi hoi => ?_) ?_
              rotate_left
              · simp at hoi
                subst hoi
                refine ⟨by rfl, fun w' hw' => ?_⟩
                go_simp
                all_goals rfl
              try simp only [Act.put, List.setIfInBounds_toArray, List.set_cons_zero, List.set_cons_succ]
              refine later_take (i := 3) (d := 24) (v := ?_) (by kernel_rfl) (by kernel_rfl) (by kernel_rfl) (by kernel_rfl) (fun _ _ _ h => h) (fun oi hoi => ?_) ?_
              rotate_left
              · simp at hoi
                subst hoi
                refine ⟨by rfl, fun w' hw' => ?_⟩
                go_simp
                all_goals rfl
              try simp only [Act.put, List.setIfInBounds_toArray, List.set_cons_zero, List.set_cons_succ]
              refine later_take (i := 4) (d := 25) (v := ?_) (by kernel_rfl) (by kernel_rfl) (by kernel_rfl) (by kernel_rfl) (fun _ _ _ h => h) (fun oi hoi => ?_) ?_
              rotate_left
              · simp at hoi
                subst hoi
                refine ⟨by rfl, fun w' hw' => ?_⟩
                go_simp
                all_goals rfl
              try simp only [Act.put, List.setIfInBounds_toArray, List.set_cons_zero, List.set_cons_succ]
              refine later_take (i := 5) (d := 26) (v := ?_) (by kernel_rfl) (by kernel_rfl) (by kernel_rfl) (by kernel_rfl) (fun _ _ _ h => h) (fun oi hoi => ?_) ?_
              rotate_left
              · simp at hoi
                subst hoi
                refine ⟨by rfl, fun w' hw' => ?_⟩
                go_simp
                all_goals rfl
              try simp only [Act.put, List.setIfInBounds_toArray, List.set_cons_zero, List.set_cons_succ]
              refine later_take (i := 7) (d := 28) (v := ?_) (by kernel_rfl) (by kernel_rfl) (by kernel_rfl) (by kernel_rfl) (fun _ _ _ h => h) (fun oi hoi => ?_) ?_
              rotate_left
              · simp at hoi
                subst hoi
                refine ⟨by rfl, fun w' hw' => ?_⟩
                go_simp
                all_goals rfl
              try simp only [Act.put, List.setIfInBounds_toArray, List.set_cons_zero, List.set_cons_succ]
              refine later_take (i := 8) (d := 29) (v := ?_) (by kernel_rfl) (by kernel_rfl) (by kernel_rfl) (by kernel_rfl) (fun _ _ _ h => h) (fun oi hoi => ?_) ?_
              rotate_left
              · simp at hoi
                subst hoi
                refine ⟨by rfl, fun w' hw' => ?_⟩
                have hx := Blk.below (unhide B) hw'
                have x0 := hx.cell 0
                simp only [List.getElem?_toArray, List.getElem?_cons_zero] at x0
                go_simp
                all_goals rfl
              try simp only [Act.put, List.setIfInBounds_toArray, List.set_cons_zero, List.set_cons_succ]
              refine later_one (i := 6) (by kernel_rfl) (fun oi K hoi hK => ?_)
              simp at hoi
              subst hoi
              refine ⟨by rfl, ?_⟩
              go_simp
              refine (sTreUp_any (lf : Int) _).mono ?_
              rintro e wu ⟨vu, rfl, hou, hb⟩
              go_simp
              refine hK.out _ _ hb ?_
              clear hK
              have V := hide hou.irow
              clear hou
              replace A := hide ((unhide A).below hb)
              replace B := hide ((unhide B).below hb)
              replace HB := hide (HB.out.trans (hb.mono HB.out.size))
              clear hb
              try simp only [Act.put, List.setIfInBounds_toArray, List.set_cons_zero, List.set_cons_succ]
              refine later_one (i := 9) (by kernel_rfl) (fun oi K hoi hK => ?_)
              simp at hoi
              subst hoi
              refine ⟨by rfl, ?_⟩
              go_simp
              refine (l4In_any vu (upOf (lf : Int)) (nq : Int) _ (unhide V)).mono ?_
              rw [HUP.out]
              rintro e wz ⟨rfl, rfl⟩
              go_simp
              refine hK.out _ _ (Below.refl _ _) ?_
              clear hK
              clear V
              try simp only [Act.put, List.setIfInBounds_toArray, List.set_cons_zero, List.set_cons_succ]
              refine later_take (i := 10) (d := 31) (v := ?_) (by kernel_rfl) (by kernel_rfl) (by kernel_rfl) (by kernel_rfl) (fun _ _ _ h => h) (fun oi hoi => ?_) ?_
              rotate_left
              · simp at hoi
                subst hoi
                refine ⟨by rfl, fun w' hw' => ?_⟩
                go_simp
                all_goals rfl
              try simp only [Act.put, List.setIfInBounds_toArray, List.set_cons_zero, List.set_cons_succ]
              refine later_take (i := 11) (d := 32) (v := ?_) (by kernel_rfl) (by kernel_rfl) (by kernel_rfl) (by kernel_rfl) (fun _ _ _ h => h) (fun oi hoi => ?_) ?_
              rotate_left
              · simp at hoi
                subst hoi
                refine ⟨by rfl, fun w' hw' => ?_⟩
                go_simp
                all_goals rfl
              try simp only [Act.put, List.setIfInBounds_toArray, List.set_cons_zero, List.set_cons_succ]
              refine later_take (i := 12) (d := 33) (v := ?_) (by kernel_rfl) (by kernel_rfl) (by kernel_rfl) (by kernel_rfl) (fun _ _ _ h => h) (fun oi hoi => ?_) ?_
              rotate_left
              · simp at hoi
                subst hoi
                refine ⟨by rfl, fun w' hw' => ?_⟩
                go_simp
                all_goals rfl
              try simp only [Act.put, List.setIfInBounds_toArray, List.set_cons_zero, List.set_cons_succ]
              refine later_take (i := 13) (d := 34) (v := ?_) (by kernel_rfl) (by kernel_rfl) (by kernel_rfl) (by kernel_rfl) (fun _ _ _ h => h) (fun oi hoi => ?_) ?_
              rotate_left
              · simp at hoi
                subst hoi
                refine ⟨by rfl, fun w' hw' => ?_⟩
                go_simp
                all_goals rfl
              try simp only [Act.put, List.setIfInBounds_toArray, List.set_cons_zero, List.set_cons_succ]
              refine later_take (i := 14) (d := 35) (v := ?_) (by kernel_rfl) (by kernel_rfl) (by kernel_rfl) (by kernel_rfl) (fun _ _ _ h => h) (fun oi hoi => ?_) ?_
              rotate_left
              · simp at hoi
                subst hoi
                refine ⟨by rfl, fun w' hw' => ?_⟩
                have hx := Blk.below (unhide B) hw'
                have x1 := hx.cell 1
                simp only [List.getElem?_toArray, List.getElem?_cons_succ, List.getElem?_cons_zero] at x1
                go_simp
                all_goals rfl
              try simp only [Act.put, List.setIfInBounds_toArray, List.set_cons_zero, List.set_cons_succ]
              refine later_one (i := 15) (by kernel_rfl) (fun oi K hoi hK => ?_)
              simp at hoi
              subst hoi
              refine ⟨by rfl, ?_⟩
              go_simp
              refine (sSecOk_any sec _ HSM.out).mono ?_
              rw [HOKS.out]
              rintro e w5 ⟨rfl, hb⟩
              go_simp
              refine hK.out _ _ hb ?_
              clear hK
              replace A := hide ((unhide A).below hb)
              replace B := hide ((unhide B).below hb)
              replace HB := hide (HB.out.trans (hb.mono HB.out.size))
              clear hb
              try simp only [Act.put, List.setIfInBounds_toArray, List.set_cons_zero, List.set_cons_succ]
              refine later_take (i := 16) (d := 37) (v := ?_) (by kernel_rfl) (by kernel_rfl) (by kernel_rfl) (by kernel_rfl) (fun _ _ _ h => h) (fun oi hoi => ?_) ?_
              rotate_left
              · simp at hoi
                subst hoi
                refine ⟨by rfl, fun w' hw' => ?_⟩
                go_simp
                all_goals rfl
              try simp only [Act.put, List.setIfInBounds_toArray, List.set_cons_zero, List.set_cons_succ]
              refine later_take (i := 17) (d := 38) (v := ?_) (by kernel_rfl) (by kernel_rfl) (by kernel_rfl) (by kernel_rfl) (fun _ _ _ h => h) (fun oi hoi => ?_) ?_
              rotate_left
              · simp at hoi
                subst hoi
                refine ⟨by rfl, fun w' hw' => ?_⟩
                go_simp
                all_goals rfl
              try simp only [Act.put, List.setIfInBounds_toArray, List.set_cons_zero, List.set_cons_succ]
              refine later_take (i := 18) (d := 39) (v := ?_) (by kernel_rfl) (by kernel_rfl) (by kernel_rfl) (by kernel_rfl) (fun _ _ _ h => h) (fun oi hoi => ?_) ?_
              rotate_left
              · simp at hoi
                subst hoi
                refine ⟨by rfl, fun w' hw' => ?_⟩
                go_simp
                all_goals rfl
              try simp only [Act.put, List.setIfInBounds_toArray, List.set_cons_zero, List.set_cons_succ]
              refine later_take (i := 19) (d := 40) (v := ?_) (by kernel_rfl) (by kernel_rfl) (by kernel_rfl) (by kernel_rfl) (fun _ _ _ h => h) (fun oi hoi => ?_) ?_
              rotate_left
              · simp at hoi
                subst hoi
                refine ⟨by rfl, fun w' hw' => ?_⟩
                go_simp
                all_goals rfl
              try simp only [Act.put, List.setIfInBounds_toArray, List.set_cons_zero, List.set_cons_succ]
              refine later_take (i := 20) (d := 41) (v := ?_) (by kernel_rfl) (by kernel_rfl) (by kernel_rfl) (by kernel_rfl) (fun _ _ _ h => h) (fun oi hoi => ?_) ?_
              rotate_left
              · simp at hoi
                subst hoi
                refine ⟨by rfl, fun w' hw' => ?_⟩
                go_simp
                all_goals rfl
              try simp only [Act.put, List.setIfInBounds_toArray, List.set_cons_zero, List.set_cons_succ]
              refine later_take (i := 21) (d := 42) (v := ?_) (by kernel_rfl) (by kernel_rfl) (by kernel_rfl) (by kernel_rfl) (fun _ _ _ h => h) (fun oi hoi => ?_) ?_
              rotate_left
              · simp at hoi
                subst hoi
                refine ⟨by rfl, fun w' hw' => ?_⟩
                have hx := Blk.below (unhide A) hw'
                have x2 := hx.cell 2
                simp only [List.getElem?_toArray, List.getElem?_cons_succ, List.getElem?_cons_zero] at x2
                go_simp
                all_goals rfl
              try simp only [Act.put, List.setIfInBounds_toArray, List.set_cons_zero, List.set_cons_succ]
              refine later_take (i := 22) (d := 43) (v := ?_) (by kernel_rfl) (by kernel_rfl) (by kernel_rfl) (by kernel_rfl) (fun _ _ _ h => h) (fun oi hoi => ?_) ?_
              rotate_left
              · simp at hoi
                subst hoi
                refine ⟨by rfl, fun w' hw' => ?_⟩
                go_simp
                all_goals rfl
              try simp only [Act.put, List.setIfInBounds_toArray, List.set_cons_zero, List.set_cons_succ]
              refine later_take (i := 23) (d := 44) (v := ?_) (by kernel_rfl) (by kernel_rfl) (by kernel_rfl) (by kernel_rfl) (fun _ _ _ h => h) (fun oi hoi => ?_) ?_
              rotate_left
              · simp at hoi
                subst hoi
                refine ⟨by rfl, fun w' hw' => ?_⟩
                have hx := Blk.below (unhide B) hw'
                have x0 := hx.cell 0
                simp only [List.getElem?_toArray, List.getElem?_cons_zero] at x0
                go_simp
                all_goals rfl
              try simp only [Act.put, List.setIfInBounds_toArray, List.set_cons_zero, List.set_cons_succ]
              refine later_take (i := 24) (d := 45) (v := ?_) (by kernel_rfl) (by kernel_rfl) (by kernel_rfl) (by kernel_rfl) (fun _ _ _ h => h) (fun oi hoi => ?_) ?_
              rotate_left
              · simp at hoi
                subst hoi
                refine ⟨by rfl, fun w' hw' => ?_⟩
                go_simp
                all_goals rfl
              try simp only [Act.put, List.setIfInBounds_toArray, List.set_cons_zero, List.set_cons_succ]
              refine later_take (i := 25) (d := 46) (v := ?_) (by kernel_rfl) (by kernel_rfl) (by kernel_rfl) (by kernel_rfl) (fun _ _ _ h => h) (fun oi hoi => ?_) ?_
              rotate_left
              · simp at hoi
                subst hoi
                refine ⟨by rfl, fun w' hw' => ?_⟩
                have hx := ((unhide HK).below ((unhide HB).trans (hw'.mono (unhide HB).size))).form
                obtain ⟨ax, cx, qx, _, _, qy⟩ := hx
                rw [HL.out] at qx qy
                simp only [Value.slice.injEq] at qx
                obtain ⟨rfl, _, rfl⟩ := qx
                obtain ⟨a', ha', hcx⟩ := qy nq (by omega)
                cases ha'
                rw [HKY.out] at hcx
                go_simp
                all_goals rfl
              try simp only [Act.put, List.setIfInBounds_toArray, List.set_cons_zero, List.set_cons_succ]
              refine later_take (i := 26) (d := 47) (v := ?_) (by kernel_rfl) (by kernel_rfl) (by kernel_rfl) (by kernel_rfl) (fun _ _ _ h => h) (fun oi hoi => ?_) ?_
              rotate_left
              · simp at hoi
                subst hoi
                refine ⟨by rfl, fun w' hw' => ?_⟩
                go_simp
                all_goals rfl
              try simp only [Act.put, List.setIfInBounds_toArray, List.set_cons_zero, List.set_cons_succ]
              refine later_take (i := 27) (d := 48) (v := ?_) (by kernel_rfl) (by kernel_rfl) (by kernel_rfl) (by kernel_rfl) (fun _ _ _ h => h) (fun oi hoi => ?_) ?_
              rotate_left
              · simp at hoi
                subst hoi
                refine ⟨by rfl, fun w' hw' => ?_⟩
                have hx := Blk.below (unhide B) hw'
                have x1 := hx.cell 1
                simp only [List.getElem?_toArray, List.getElem?_cons_succ, List.getElem?_cons_zero] at x1
                go_simp
                all_goals rfl
              try simp only [Act.put, List.setIfInBounds_toArray, List.set_cons_zero, List.set_cons_succ]
              refine later_one (i := 28) (by kernel_rfl) (fun oi K hoi hK => ?_)
              simp at hoi
              subst hoi
              refine ⟨by rfl, ?_⟩
              go_simp
              refine (sMakKey_any sec _ HSM.out).mono ?_
              rintro e w6 ⟨rfl, hb⟩
              go_simp
              refine hK.out _ _ hb ?_
              clear hK
              replace A := hide ((unhide A).below hb)
              replace B := hide ((unhide B).below hb)
              replace HB := hide (HB.out.trans (hb.mono HB.out.size))
              clear hb
              try simp only [Act.put, List.setIfInBounds_toArray, List.set_cons_zero, List.set_cons_succ]
              refine later_take (i := 29) (d := 50) (v := ?_) (by kernel_rfl) (by kernel_rfl) (by kernel_rfl) (by kernel_rfl) (fun _ _ _ h => h) (fun oi hoi => ?_) ?_
              rotate_left
              · simp at hoi
                subst hoi
                refine ⟨by rfl, fun w' hw' => ?_⟩
                go_simp
                all_goals rfl
              try simp only [Act.put, List.setIfInBounds_toArray, List.set_cons_zero, List.set_cons_succ]
              refine later_take (i := 30) (d := 51) (v := ?_) (by kernel_rfl) (by kernel_rfl) (by kernel_rfl) (by kernel_rfl) (fun _ _ _ h => h) (fun oi hoi => ?_) ?_
              rotate_left
              · simp at hoi
                subst hoi
                refine ⟨by rfl, fun w' hw' => ?_⟩
                go_simp
                all_goals rfl
              try simp only [Act.put, List.setIfInBounds_toArray, List.set_cons_zero, List.set_cons_succ]
              refine later_take (i := 31) (d := 52) (v := ?_) (by kernel_rfl) (by kernel_rfl) (by kernel_rfl) (by kernel_rfl) (fun _ _ _ h => h) (fun oi hoi => ?_) ?_
              rotate_left
              · simp at hoi
                subst hoi
                refine ⟨by rfl, fun w' hw' => ?_⟩
                go_simp
                all_goals rfl
              try simp only [Act.put, List.setIfInBounds_toArray, List.set_cons_zero, List.set_cons_succ]
              refine later_skip (i := 32) (d := 53) (by kernel_rfl) (by kernel_rfl) (by kernel_rfl) (by kernel_rfl) (fun _ _ _ h => h) (by rfl) ?_
              try simp only [Act.put, List.setIfInBounds_toArray, List.set_cons_zero, List.set_cons_succ]
              refine later_skip (i := 33) (d := 54) (by kernel_rfl) (by kernel_rfl) (by kernel_rfl) (by kernel_rfl) (fun _ _ _ h => h) (by rfl) ?_
              try simp only [Act.put, List.setIfInBounds_toArray, List.set_cons_zero, List.set_cons_succ]
              refine later_skip (i := 34) (d := 55) (by kernel_rfl) (by kernel_rfl) (by kernel_rfl) (by kernel_rfl) (fun _ _ _ h => h) (by rfl) ?_
              try simp only [Act.put, List.setIfInBounds_toArray, List.set_cons_zero, List.set_cons_succ]
              refine later_skip (i := 35) (d := 56) (by kernel_rfl) (by kernel_rfl) (by kernel_rfl) (by kernel_rfl) (fun _ _ _ h => h) (by rfl) ?_
              try simp only [Act.put, List.setIfInBounds_toArray, List.set_cons_zero, List.set_cons_succ]
              refine later_skip (i := 36) (d := 57) (by kernel_rfl) (by kernel_rfl) (by kernel_rfl) (by kernel_rfl) (fun _ _ _ h => h) (by rfl) ?_
              try simp only [Act.put, List.setIfInBounds_toArray, List.set_cons_zero, List.set_cons_succ]
              refine later_skip (i := 37) (d := 58) (by kernel_rfl) (by kernel_rfl) (by kernel_rfl) (by kernel_rfl) (fun _ _ _ h => h) (by rfl) ?_
              try simp only [Act.put, List.setIfInBounds_toArray, List.set_cons_zero, List.set_cons_succ]
              refine later_skip (i := 38) (d := 59) (by kernel_rfl) (by kernel_rfl) (by kernel_rfl) (by kernel_rfl) (fun _ _ _ h => h) (by rfl) ?_
              try simp only [Act.put, List.setIfInBounds_toArray, List.set_cons_zero, List.set_cons_succ]
              refine later_skip (i := 39) (d := 60) (by kernel_rfl) (by kernel_rfl) (by kernel_rfl) (by kernel_rfl) (fun _ _ _ h => h) (by rfl) ?_
              try simp only [Act.put, List.setIfInBounds_toArray, List.set_cons_zero, List.set_cons_succ]
              refine later_skip (i := 40) (d := 61) (by kernel_rfl) (by kernel_rfl) (by kernel_rfl) (by kernel_rfl) (fun _ _ _ h => h) (by rfl) ?_
              try simp only [Act.put, List.setIfInBounds_toArray, List.set_cons_zero, List.set_cons_succ]
              refine later_take (i := 41) (d := 62) (v := ?_) (by kernel_rfl) (by kernel_rfl) (by kernel_rfl) (by kernel_rfl) (fun _ _ _ h => h) (fun oi hoi => ?_) ?_
              rotate_left
              · simp at hoi
                subst hoi
                refine ⟨by rfl, fun w' hw' => ?_⟩
                go_simp
                all_goals rfl
              try simp only [Act.put, List.setIfInBounds_toArray, List.set_cons_zero, List.set_cons_succ]
              refine later_done (by kernel_rfl) ?_ _
              go_wp2_with fail
              go_ret
              exact ⟨ret_bool' HE.out.symm, unhide HB⟩
        · have HUP : Hid (decide (nd ∈ upOf (lf : Int)) = false) := decide_eq_false hup
          have HE : Hid (fitsS keys own (chainOf (leafOf (k : Int))) = false) := HNO.out (by rw [HFD.out]; rw [decide_eq_false (fun q => (List.mem_cons.1 q).elim hnl hup)]; rfl)
          clear hup hnl
          go_wp2_with fail
          try rw [hW]
          refine wp_region_later (by kernel_rfl) ?_
          refine later_take (i := 0) (d := 21) (v := ?_) (by kernel_rfl) (by kernel_rfl) (by kernel_rfl) (by kernel_rfl) (fun _ _ _ h => h) (fun oi hoi => ?_) ?_
          rotate_left
          · simp at hoi
            subst hoi
            refine ⟨by rfl, fun w' hw' => ?_⟩
            go_simp
            all_goals rfl
          try simp only [Act.put, List.setIfInBounds_toArray, List.set_cons_zero, List.set_cons_succ]
          refine later_take (i := 1) (d := 22) (v := ?_) (by kernel_rfl) (by kernel_rfl) (by kernel_rfl) (by kernel_rfl) (fun _ _ _ h => h) (fun oi hoi => ?_) ?_
          rotate_left
          · simp at hoi
            subst hoi
            refine ⟨by rfl, fun w' hw' => ?_⟩
            have hx := Blk.below (unhide B) hw'
            have x0 := hx.cell 0
            simp only [List.getElem?_toArray, List.getElem?_cons_zero] at x0
            go_simp
            all_goals rfl
          try simp only [Act.put, List.setIfInBounds_toArray, List.set_cons_zero, List.set_cons_succ]
          refine later_take (i := 2) (d := 23) (v := ?_) (by kernel_rfl) (by kernel_rfl) (by kernel_rfl) (by kernel_rfl) (fun _ _ _ h => h) (fun oi hoi => ?_) ?_
          rotate_left
          · simp at hoi
            subst hoi
            refine ⟨by rfl, fun w' hw' => ?_⟩
            go_simp
            all_goals rfl
          try simp only [Act.put, List.setIfInBounds_toArray, List.set_cons_zero, List.set_cons_succ]
          refine later_take (i := 3) (d := 24) (v := ?_) (by kernel_rfl) (by kernel_rfl) (by kernel_rfl) (by kernel_rfl) (fun _ _ _ h => h) (fun oi hoi => ?_) ?_
          rotate_left
          · simp at hoi
            subst hoi
            refine ⟨by rfl, fun w' hw' => ?_⟩
            go_simp
            all_goals rfl
          try simp only [Act.put, List.setIfInBounds_toArray, List.set_cons_zero, List.set_cons_succ]
          refine later_take (i := 4) (d := 25) (v := ?_) (by kernel_rfl) (by kernel_rfl) (by kernel_rfl) (by kernel_rfl) (fun _ _ _ h => h) (fun oi hoi => ?_) ?_
          rotate_left
          · simp at hoi
            subst hoi
            refine ⟨by rfl, fun w' hw' => ?_⟩
            go_simp
            all_goals rfl
          try simp only [Act.put, List.setIfInBounds_toArray, List.set_cons_zero, List.set_cons_succ]
          refine later_take (i := 5) (d := 26) (v := ?_) (by kernel_rfl) (by kernel_rfl) (by kernel_rfl) (by kernel_rfl) (fun _ _ _ h => h) (fun oi hoi => ?_) ?_
          rotate_left
          · simp at hoi
            subst hoi
            refine ⟨by rfl, fun w' hw' => ?_⟩
            go_simp
            all_goals rfl
          try simp only [Act.put, List.setIfInBounds_toArray, List.set_cons_zero, List.set_cons_succ]
          refine later_take (i := 7) (d := 28) (v := ?_) (by kernel_rfl) (by kernel_rfl) (by kernel_rfl) (by kernel_rfl) (fun _ _ _ h => h) (fun oi hoi => ?_) ?_
          rotate_left
          · simp at hoi
            subst hoi
            refine ⟨by rfl, fun w' hw' => ?_⟩
            go_simp
            all_goals rfl
          try simp only [Act.put, List.setIfInBounds_toArray, List.set_cons_zero, List.set_cons_succ]
          refine later_take (i := 8) (d := 29) (v := ?_) (by kernel_rfl) (by kernel_rfl) (by kernel_rfl) (by kernel_rfl) (fun _ _ _ h => h) (fun oi hoi => ?_) ?_
          rotate_left
          · simp at hoi
            subst hoi
            refine ⟨by rfl, fun w' hw' => ?_⟩
            have hx := Blk.below (unhide B) hw'
            have x0 := hx.cell 0
            simp only [List.getElem?_toArray, List.getElem?_cons_zero] at x0
            go_simp
            all_goals rfl
          try simp only [Act.put, List.setIfInBounds_toArray, List.set_cons_zero, List.set_cons_succ]
          refine later_one (i := 6) (by kernel_rfl) (fun oi K hoi hK => ?_)
          simp at hoi
          subst hoi
          refine ⟨by rfl, ?_⟩
          go_simp
          refine (sTreUp_any (lf : Int) _).mono ?_
          rintro e wu ⟨vu, rfl, hou, hb⟩
          go_simp
          refine hK.out _ _ hb ?_
          clear hK
          have V := hide hou.irow
          clear hou
          replace A := hide ((unhide A).below hb)
          replace B := hide ((unhide B).below hb)
          replace HB := hide (HB.out.trans (hb.mono HB.out.size))
          clear hb
          try simp only [Act.put, List.setIfInBounds_toArray, List.set_cons_zero, List.set_cons_succ]
          refine later_one (i := 9) (by kernel_rfl) (fun oi K hoi hK => ?_)
          simp at hoi
          subst hoi
          refine ⟨by rfl, ?_⟩
          go_simp
          refine (l4In_any vu (upOf (lf : Int)) nd _ (unhide V)).mono ?_
          rw [HUP.out]
          rintro e wz ⟨rfl, rfl⟩
          go_simp
          refine hK.out _ _ (Below.refl _ _) ?_
          clear hK
          clear V
          try simp only [Act.put, List.setIfInBounds_toArray, List.set_cons_zero, List.set_cons_succ]
          refine later_take (i := 10) (d := 31) (v := ?_) (by kernel_rfl) (by kernel_rfl) (by kernel_rfl) (by kernel_rfl) (fun _ _ _ h => h) (fun oi hoi => ?_) ?_
          rotate_left
          · simp at hoi
            subst hoi
            refine ⟨by rfl, fun w' hw' => ?_⟩
            go_simp
            all_goals rfl
          try simp only [Act.put, List.setIfInBounds_toArray, List.set_cons_zero, List.set_cons_succ]
          refine later_take (i := 11) (d := 32) (v := ?_) (by kernel_rfl) (by kernel_rfl) (by kernel_rfl) (by kernel_rfl) (fun _ _ _ h => h) (fun oi hoi => ?_) ?_
          rotate_left
          · simp at hoi
            subst hoi
            refine ⟨by rfl, fun w' hw' => ?_⟩
            go_simp
            all_goals rfl
          try simp only [Act.put, List.setIfInBounds_toArray, List.set_cons_zero, List.set_cons_succ]
          refine later_take (i := 12) (d := 33) (v := ?_) (by kernel_rfl) (by kernel_rfl) (by kernel_rfl) (by kernel_rfl) (fun _ _ _ h => h) (fun oi hoi => ?_) ?_
          rotate_left
          · simp at hoi
            subst hoi
            refine ⟨by rfl, fun w' hw' => ?_⟩
            go_simp
            all_goals rfl
          try simp only [Act.put, List.setIfInBounds_toArray, List.set_cons_zero, List.set_cons_succ]
          refine later_skip (i := 13) (d := 34) (by kernel_rfl) (by kernel_rfl) (by kernel_rfl) (by kernel_rfl) (fun _ _ _ h => h) (by rfl) ?_
          try simp only [Act.put, List.setIfInBounds_toArray, List.set_cons_zero, List.set_cons_succ]
          refine later_skip (i := 14) (d := 35) (by kernel_rfl) (by kernel_rfl) (by kernel_rfl) (by kernel_rfl) (fun _ _ _ h => h) (by rfl) ?_
          try simp only [Act.put, List.setIfInBounds_toArray, List.set_cons_zero, List.set_cons_succ]
          refine later_skip (i := 15) (d := 36) (by kernel_rfl) (by kernel_rfl) (by kernel_rfl) (by kernel_rfl) (fun _ _ _ h => h) (by rfl) ?_
          try simp only [Act.put, List.setIfInBounds_toArray, List.set_cons_zero, List.set_cons_succ]
          refine later_skip (i := 16) (d := 37) (by kernel_rfl) (by kernel_rfl) (by kernel_rfl) (by kernel_rfl) (fun _ _ _ h => h) (by rfl) ?_
          try simp only [Act.put, List.setIfInBounds_toArray, List.set_cons_zero, List.set_cons_succ]
          refine later_take (i := 17) (d := 38) (v := ?_) (by kernel_rfl) (by kernel_rfl) (by kernel_rfl) (by kernel_rfl) (fun _ _ _ h => h) (fun oi hoi => ?_) ?_
          rotate_left
          · simp at hoi
            subst hoi
            refine ⟨by rfl, fun w' hw' => ?_⟩
            go_simp
            all_goals rfl
          try simp only [Act.put, List.setIfInBounds_toArray, List.set_cons_zero, List.set_cons_succ]
          refine later_take (i := 18) (d := 39) (v := ?_) (by kernel_rfl) (by kernel_rfl) (by kernel_rfl) (by kernel_rfl) (fun _ _ _ h => h) (fun oi hoi => ?_) ?_
          rotate_left
          · simp at hoi
            subst hoi
            refine ⟨by rfl, fun w' hw' => ?_⟩
            go_simp
            all_goals rfl
          try simp only [Act.put, List.setIfInBounds_toArray, List.set_cons_zero, List.set_cons_succ]
          refine later_skip (i := 19) (d := 40) (by kernel_rfl) (by kernel_rfl) (by kernel_rfl) (by kernel_rfl) (fun _ _ _ h => h) (by rfl) ?_
          try simp only [Act.put, List.setIfInBounds_toArray, List.set_cons_zero, List.set_cons_succ]
          refine later_skip (i := 20) (d := 41) (by kernel_rfl) (by kernel_rfl) (by kernel_rfl) (by kernel_rfl) (fun _ _ _ h => h) (by rfl) ?_
          try simp only [Act.put, List.setIfInBounds_toArray, List.set_cons_zero, List.set_cons_succ]
          refine later_skip (i := 21) (d := 42) (by kernel_rfl) (by kernel_rfl) (by kernel_rfl) (by kernel_rfl) (fun _ _ _ h => h) (by rfl) ?_
          try simp only [Act.put, List.setIfInBounds_toArray, List.set_cons_zero, List.set_cons_succ]
          refine later_skip (i := 22) (d := 43) (by kernel_rfl) (by kernel_rfl) (by kernel_rfl) (by kernel_rfl) (fun _ _ _ h => h) (by rfl) ?_
          try simp only [Act.put, List.setIfInBounds_toArray, List.set_cons_zero, List.set_cons_succ]
          refine later_skip (i := 23) (d := 44) (by kernel_rfl) (by kernel_rfl) (by kernel_rfl) (by kernel_rfl) (fun _ _ _ h => h) (by rfl) ?_
          try simp only [Act.put, List.setIfInBounds_toArray, List.set_cons_zero, List.set_cons_succ]
          refine later_skip (i := 24) (d := 45) (by kernel_rfl) (by kernel_rfl) (by kernel_rfl) (by kernel_rfl) (fun _ _ _ h => h) (by rfl) ?_
          try simp only [Act.put, List.setIfInBounds_toArray, List.set_cons_zero, List.set_cons_succ]
          refine later_skip (i := 25) (d := 46) (by kernel_rfl) (by kernel_rfl) (by kernel_rfl) (by kernel_rfl) (fun _ _ _ h => h) (by rfl) ?_
          try simp only [Act.put, List.setIfInBounds_toArray, List.set_cons_zero, List.set_cons_succ]
          refine later_skip (i := 26) (d := 47) (by kernel_rfl) (by kernel_rfl) (by kernel_rfl) (by kernel_rfl) (fun _ _ _ h => h) (by rfl) ?_
          try simp only [Act.put, List.setIfInBounds_toArray, List.set_cons_zero, List.set_cons_succ]
          refine later_skip (i := 27) (d := 48) (by kernel_rfl) (by kernel_rfl) (by kernel_rfl) (by kernel_rfl) (fun _ _ _ h => h) (by rfl) ?_
          try simp only [Act.put, List.setIfInBounds_toArray, List.set_cons_zero, List.set_cons_succ]
          refine later_skip (i := 28) (d := 49) (by kernel_rfl) (by kernel_rfl) (by kernel_rfl) (by kernel_rfl) (fun _ _ _ h => h) (by rfl) ?_
          try simp only [Act.put, List.setIfInBounds_toArray, List.set_cons_zero, List.set_cons_succ]
          refine later_skip (i := 29) (d := 50) (by kernel_rfl) (by kernel_rfl) (by kernel_rfl) (by kernel_rfl) (fun _ _ _ h => h) (by rfl) ?_
          try simp only [Act.put, List.setIfInBounds_toArray, List.set_cons_zero, List.set_cons_succ]
          refine later_take (i := 30) (d := 51) (v := ?_) (by kernel_rfl) (by kernel_rfl) (by kernel_rfl) (by kernel_rfl) (fun _ _ _ h => h) (fun oi hoi => ?_) ?_
          rotate_left
          · simp at hoi
            subst hoi
            refine ⟨by rfl, fun w' hw' => ?_⟩
            go_simp
            all_goals rfl
          try simp only [Act.put, List.setIfInBounds_toArray, List.set_cons_zero, List.set_cons_succ]
          refine later_take (i := 31) (d := 52) (v := ?_) (by kernel_rfl) (by kernel_rfl) (by kernel_rfl) (by kernel_rfl) (fun _ _ _ h => h) (fun oi hoi => ?_) ?_
          rotate_left
          · simp at hoi
            subst hoi
            refine ⟨by rfl, fun w' hw' => ?_⟩
            go_simp
            all_goals rfl
          try simp only [Act.put, List.setIfInBounds_toArray, List.set_cons_zero, List.set_cons_succ]
          refine later_skip (i := 32) (d := 53) (by kernel_rfl) (by kernel_rfl) (by kernel_rfl) (by kernel_rfl) (fun _ _ _ h => h) (by rfl) ?_
          try simp only [Act.put, List.setIfInBounds_toArray, List.set_cons_zero, List.set_cons_succ]
          refine later_skip (i := 33) (d := 54) (by kernel_rfl) (by kernel_rfl) (by kernel_rfl) (by kernel_rfl) (fun _ _ _ h => h) (by rfl) ?_
          try simp only [Act.put, List.setIfInBounds_toArray, List.set_cons_zero, List.set_cons_succ]
          refine later_skip (i := 34) (d := 55) (by kernel_rfl) (by kernel_rfl) (by kernel_rfl) (by kernel_rfl) (fun _ _ _ h => h) (by rfl) ?_
          try simp only [Act.put, List.setIfInBounds_toArray, List.set_cons_zero, List.set_cons_succ]
          refine later_skip (i := 35) (d := 56) (by kernel_rfl) (by kernel_rfl) (by kernel_rfl) (by kernel_rfl) (fun _ _ _ h => h) (by rfl) ?_
          try simp only [Act.put, List.setIfInBounds_toArray, List.set_cons_zero, List.set_cons_succ]
          refine later_skip (i := 36) (d := 57) (by kernel_rfl) (by kernel_rfl) (by kernel_rfl) (by kernel_rfl) (fun _ _ _ h => h) (by rfl) ?_
          try simp only [Act.put, List.setIfInBounds_toArray, List.set_cons_zero, List.set_cons_succ]
          refine later_skip (i := 37) (d := 58) (by kernel_rfl) (by kernel_rfl) (by kernel_rfl) (by kernel_rfl) (fun _ _ _ h => h) (by rfl) ?_
          try simp only [Act.put, List.setIfInBounds_toArray, List.set_cons_zero, List.set_cons_succ]
          refine later_skip (i := 38) (d := 59) (by kernel_rfl) (by kernel_rfl) (by kernel_rfl) (by kernel_rfl) (fun _ _ _ h => h) (by rfl) ?_
          try simp only [Act.put, List.setIfInBounds_toArray, List.set_cons_zero, List.set_cons_succ]
          refine later_skip (i := 39) (d := 60) (by kernel_rfl) (by kernel_rfl) (by kernel_rfl) (by kernel_rfl) (fun _ _ _ h => h) (by rfl) ?_
          try simp only [Act.put, List.setIfInBounds_toArray, List.set_cons_zero, List.set_cons_succ]
          refine later_skip (i := 40) (d := 61) (by kernel_rfl) (by kernel_rfl) (by kernel_rfl) (by kernel_rfl) (fun _ _ _ h => h) (by rfl) ?_
          try simp only [Act.put, List.setIfInBounds_toArray, List.set_cons_zero, List.set_cons_succ]
          refine later_take (i := 41) (d := 62) (v := ?_) (by kernel_rfl) (by kernel_rfl) (by kernel_rfl) (by kernel_rfl) (fun _ _ _ h => h) (fun oi hoi => ?_) ?_
          rotate_left
          · simp at hoi
            subst hoi
            refine ⟨by rfl, fun w' hw' => ?_⟩
            go_simp
            all_goals rfl
          try simp only [Act.put, List.setIfInBounds_toArray, List.set_cons_zero, List.set_cons_succ]
          refine later_done (by kernel_rfl) ?_ _
          go_wp2_with fail
          go_ret
          exact ⟨ret_bool' HE.out.symm, unhide HB⟩
    · have hlt2 : decide ((j : Int) < (own.length : Int)) = false := by simp; omega
      have HE : Hid (fitsS keys own (chainOf (leafOf (k : Int))) = true) := fits_yes (fun z hz => hN.out z (by omega))
      go_wp2_with fail
      go_ret
      exact ⟨ret_bool' HE.out.symm, unhide hL⟩
#print axioms l4Fits_any
end Go.Proofs.YteiojanamkndmaaGreat
