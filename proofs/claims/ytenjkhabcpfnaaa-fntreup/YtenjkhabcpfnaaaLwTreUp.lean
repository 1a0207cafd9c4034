/-
  Proved: at every two codes the law FnTreUp returns true (TreUp of a place is that under which it lies, and then TreUp of that; the first has none; TreSide of a place lies under the same, and its TreSide is the place), and nothing that was there is written. No condition.
-/
import Derived.Test.YtenjkhabcpfnaaaFrame
import Derived.Test.YtenjkhabcpfnaaaPlcU2
import Derived.Test.YtenjkhabcpfnaaaPlcS
import Derived.Test.YtenjkhabcpfnaaaTreS2
import Derived.Test.YtenjkhabcpfnaaaDrTre2
import Derived.Test.YtenjkhabcpfnaaaRowB
import Derived.Test.YtenjkhabcpfnaaaRowInI
import Derived.Test.YtenjkhabcpfnaaaKeInts
import Derived.Test.YtenjkhabcpfnaaaKeOk
import Derived.Test.YtenjkhabcpfnaaaOrdR
namespace Go.Proofs.Ytenjkhabcpfnaaa
open Go.ChangeShapes Go.WideShapes Go.ChangeAt Go.RowKit
open Go.ChangeMaps (open_string shut_string)
set_option linter.unusedVariables false

theorem side_facts (o : Int) (h : 1 ≤ o ∧ o ≤ 14) : sideOf (sideOf o) = o ∧ overOf (sideOf o) = overOf o ∧ (1 ≤ sideOf o ∧ sideOf o ≤ 14) ∧ sideOf o ≠ o := by
  have e : sideOf o = if o % 2 = 1 then o + 1 else o - 1 := by unfold sideOf; rw [if_pos h]
  by_cases hp : o % 2 = 1
  · rw [if_pos hp] at e
    rw [e]
    refine ⟨?_, ?_, by omega, by omega⟩
    · unfold sideOf; rw [if_pos (by omega), if_neg (by omega)]; omega
    · unfold overOf; rw [if_pos (by omega), if_pos (by omega)]; omega
  · rw [if_neg hp] at e
    rw [e]
    refine ⟨?_, ?_, by omega, by omega⟩
    · unfold sideOf; rw [if_pos (by omega), if_pos (by omega)]; omega
    · unfold overOf; rw [if_pos (by omega), if_pos (by omega)]; omega

theorem tail_row {w : World} {nd x : Int} {g m cap : Nat} (hc : upOf nd = x :: upOf x) (hm : (upOf nd).length = m + 1) (h3 : m + 1 ≤ cap) (h4 : cap ≤ maxLen) (hcell : ∀ i, i < m + 1 → w.cell? ⟨g, i, none⟩ = some (.int .i64 ((upOf nd).getD i 0))) :
    IRow w (.slice (if cap = 1 then some ⟨g, 0, none⟩ else some ⟨g, 1, none⟩) m (cap - 1)) (upOf x) := by
  have hl : (upOf x).length = m := by rw [hc] at hm; simpa using hm
  by_cases h1 : cap = 1
  · rw [if_pos h1]
    exact .inr ⟨⟨g, 0, none⟩, cap - 1, by rw [hl], by omega, by omega, fun i hi => absurd hi (by omega)⟩
  · rw [if_neg h1]
    refine .inr ⟨⟨g, 1, none⟩, cap - 1, by rw [hl], by omega, by omega, fun i hi => ?_⟩
    have := hcell (i + 1) (by omega)
    rw [hc] at this
    rw [Addr.add_lit, Nat.add_comm 1 i, this]
    rfl

set_option maxRecDepth 100000 in
set_option maxHeartbeats 4000000 in
theorem walk_FnTreUp (a0 : Option Addr) (len0 cap0 : Nat) (z0 : List Int) (a1 : Option Addr) (len1 cap1 : Nat) (z1 : List Int) (w : World) (w0 : IsRow .u8 w a0 len0 cap0 z0) (w1 : IsRow .u8 w a1 len1 cap1 z1) :
    Calls Try.prog 3 #[.slice a0 len0 cap0, .slice a1 len1 cap1] w fun e w' => e = .returned (.bool true) ∧ Below w.heap.size w w' := by
  have hR := hide w0
  have hS := hide w1
  clear w0 w1
  by_cases h : (1048576 : Int) < (len0 : Int)
  · go_enter Try.func3, Try.ntmps3
    go_wp2_with fail
    go_ret
    exact ⟨rfl, Below.refl _ _⟩
  have h2 : decide ((1048576 : Int) < (len0 : Int)) = false := by simpa using h
  clear h
  by_cases h : (1048576 : Int) < (len1 : Int)
  · go_enter Try.func3, Try.ntmps3
    go_wp2_with fail
    go_ret
    exact ⟨rfl, Below.refl _ _⟩
  have h3 : decide ((1048576 : Int) < (len1 : Int)) = false := by simpa using h
  clear h
  go_enter Try.func3, Try.ntmps3
  go_wp2_with fail
  refine (DrawTreUp_any a0 len0 cap0 z0 _ (unhide hR)).mono ?_
  rintro e w0 ⟨nd, rfl, hn1, hn2, hb0⟩
  have HB0 := hide hb0
  have hS0 := hide (IsRow.belowR (unhide hS) hb0)
  clear hb0 hR hS h2
  go_wp2_with fail
  refine (DrawTreSide_any a1 len1 cap1 z1 _ (unhide hS0)).mono ?_
  rintro e w1 ⟨o, rfl, ho1, ho2, hb1⟩
  have HB1 := hide (HB0.out.trans (hb1.mono HB0.out.size))
  clear hb1 hS0 HB0 h3
  go_wp2_with fail
  refine (iTreUp_any nd _).mono ?_
  rintro e w2 ⟨v2, rfl, hq2, hb2⟩
  have HB2 := hide (HB1.out.trans (hb2.mono HB1.out.size))
  have G2 := hide (IIn.of hq2)
  clear hb2 hq2 HB1
  go_wp2_with fail
  refine (iTreSide_any o _).mono ?_
  rintro e w3 ⟨rfl, hb3⟩
  have HB3 := hide (HB2.out.trans (hb3.mono HB2.out.size))
  have G3 := hide ((unhide G2).below hb3)
  clear hb3 HB2 G2
  go_wp2_with fail
  refine (sTreUp_any nd _).mono ?_
  rintro e w4 ⟨v4, rfl, hq4, hb4⟩
  have HB4 := hide (HB3.out.trans (hb4.mono HB3.out.size))
  have G4 := hide ((unhide G3).below hb4)
  have K4 := hide hq4.irow
  clear hb4 HB3 G3 hq4
  go_wp2_with fail
  refine (keInts_any v2 v4 _ _ _ (unhide G4).irow (unhide K4)).mono ?_
  rw [show decide (upOf nd = upOf nd) = true by simp]
  rintro e w5 ⟨rfl, hb5⟩
  have HB5 := hide (HB4.out.trans (hb5.mono HB4.out.size))
  have G5 := hide ((unhide G4).below hb5)
  clear hb5 HB4 G4 K4
  go_wp2_with fail
  refine (sTreSide_any o _).mono ?_
  rintro e w6 ⟨rfl, rfl⟩
  by_cases ho : 1 ≤ o ∧ o ≤ 14
  · obtain ⟨s1, s2, s3, s4⟩ := side_facts o ho
    generalize sideOf o = s at s1 s2 s3 s4 ⊢
    have S1 := hide s1
    have S2 := hide s2
    have S3 := hide s3
    have d1 : 1 ≤ o := ho.1
    have d2 : o < 15 := by omega
    have d3 : (s == o) = false := by simpa using s4
    have HO := hide ho
    clear s1 s2 s3 s4 ho ho1 ho2
    go_wp2_with fail
    refine wp_region_later (by kernel_rfl) ?_
    refine later_take (i := 0) (d := 36) (v := ?_) (by kernel_rfl) (by kernel_rfl) (by kernel_rfl) (by kernel_rfl) (fun _ _ _ h => h) (fun oi hoi => ?_) ?_
    rotate_left
    · simp at hoi
      subst hoi
      refine ⟨by rfl, fun w' hw' => ?_⟩
      go_simp
      all_goals rfl
    try simp only [Act.put, List.setIfInBounds_toArray, List.set_cons_zero, List.set_cons_succ]
    refine later_take (i := 1) (d := 37) (v := ?_) (by kernel_rfl) (by kernel_rfl) (by kernel_rfl) (by kernel_rfl) (fun _ _ _ h => h) (fun oi hoi => ?_) ?_
    rotate_left
    · simp at hoi
      subst hoi
      refine ⟨by rfl, fun w' hw' => ?_⟩
      go_simp
      all_goals rfl
    try simp only [Act.put, List.setIfInBounds_toArray, List.set_cons_zero, List.set_cons_succ]
    refine later_take (i := 2) (d := 38) (v := ?_) (by kernel_rfl) (by kernel_rfl) (by kernel_rfl) (by kernel_rfl) (fun _ _ _ h => h) (fun oi hoi => ?_) ?_
    rotate_left
    · simp at hoi
      subst hoi
      refine ⟨by rfl, fun w' hw' => ?_⟩
      go_simp
      all_goals rfl
    try simp only [Act.put, List.setIfInBounds_toArray, List.set_cons_zero, List.set_cons_succ]
    refine later_take (i := 3) (d := 39) (v := ?_) (by kernel_rfl) (by kernel_rfl) (by kernel_rfl) (by kernel_rfl) (fun _ _ _ h => h) (fun oi hoi => ?_) ?_
    rotate_left
    · simp at hoi
      subst hoi
      refine ⟨by rfl, fun w' hw' => ?_⟩
      go_simp
      all_goals rfl
    try simp only [Act.put, List.setIfInBounds_toArray, List.set_cons_zero, List.set_cons_succ]
    refine later_take (i := 4) (d := 40) (v := ?_) (by kernel_rfl) (by kernel_rfl) (by kernel_rfl) (by kernel_rfl) (fun _ _ _ h => h) (fun oi hoi => ?_) ?_
    rotate_left
    · simp at hoi
      subst hoi
      refine ⟨by rfl, fun w' hw' => ?_⟩
      go_simp
      all_goals rfl
    try simp only [Act.put, List.setIfInBounds_toArray, List.set_cons_zero, List.set_cons_succ]
    refine later_take (i := 5) (d := 41) (v := ?_) (by kernel_rfl) (by kernel_rfl) (by kernel_rfl) (by kernel_rfl) (fun _ _ _ h => h) (fun oi hoi => ?_) ?_
    rotate_left
    · simp at hoi
      subst hoi
      refine ⟨by rfl, fun w' hw' => ?_⟩
      go_simp
      all_goals rfl
    try simp only [Act.put, List.setIfInBounds_toArray, List.set_cons_zero, List.set_cons_succ]
    refine later_take (i := 6) (d := 42) (v := ?_) (by kernel_rfl) (by kernel_rfl) (by kernel_rfl) (by kernel_rfl) (fun _ _ _ h => h) (fun oi hoi => ?_) ?_
    rotate_left
    · simp at hoi
      subst hoi
      refine ⟨by rfl, fun w' hw' => ?_⟩
      go_simp
      all_goals rfl
    try simp only [Act.put, List.setIfInBounds_toArray, List.set_cons_zero, List.set_cons_succ]
    refine later_take (i := 7) (d := 43) (v := ?_) (by kernel_rfl) (by kernel_rfl) (by kernel_rfl) (by kernel_rfl) (fun _ _ _ h => h) (fun oi hoi => ?_) ?_
    rotate_left
    · simp at hoi
      subst hoi
      refine ⟨by rfl, fun w' hw' => ?_⟩
      go_simp
      all_goals rfl
    try simp only [Act.put, List.setIfInBounds_toArray, List.set_cons_zero, List.set_cons_succ]
    refine later_take (i := 9) (d := 45) (v := ?_) (by kernel_rfl) (by kernel_rfl) (by kernel_rfl) (by kernel_rfl) (fun _ _ _ h => h) (fun oi hoi => ?_) ?_
    rotate_left
    · simp at hoi
      subst hoi
      refine ⟨by rfl, fun w' hw' => ?_⟩
      go_simp
      all_goals rfl
    try simp only [Act.put, List.setIfInBounds_toArray, List.set_cons_zero, List.set_cons_succ]
    refine later_one (i := 8) (by kernel_rfl) (fun oi K hoi hK => ?_)
    simp at hoi
    subst hoi
    refine ⟨by rfl, ?_⟩
    go_simp
    refine (iTreSide_any s _).mono ?_
    rw [S1.out]
    rintro e ws1 ⟨rfl, hbs1⟩
    go_simp
    refine hK.out _ _ hbs1 ?_
    clear hK
    try simp only [Act.put, List.setIfInBounds_toArray, List.set_cons_zero, List.set_cons_succ]
    refine later_take (i := 10) (d := 46) (v := ?_) (by kernel_rfl) (by kernel_rfl) (by kernel_rfl) (by kernel_rfl) (fun _ _ _ h => h) (fun oi hoi => ?_) ?_
    rotate_left
    · simp at hoi
      subst hoi
      refine ⟨by rfl, fun w' hw' => ?_⟩
      go_simp
      all_goals rfl
    try simp only [Act.put, List.setIfInBounds_toArray, List.set_cons_zero, List.set_cons_succ]
    refine later_take (i := 11) (d := 47) (v := ?_) (by kernel_rfl) (by kernel_rfl) (by kernel_rfl) (by kernel_rfl) (fun _ _ _ h => h) (fun oi hoi => ?_) ?_
    rotate_left
    · simp at hoi
      subst hoi
      refine ⟨by rfl, fun w' hw' => ?_⟩
      go_simp
      all_goals rfl
    try simp only [Act.put, List.setIfInBounds_toArray, List.set_cons_zero, List.set_cons_succ]
    refine later_take (i := 12) (d := 48) (v := ?_) (by kernel_rfl) (by kernel_rfl) (by kernel_rfl) (by kernel_rfl) (fun _ _ _ h => h) (fun oi hoi => ?_) ?_
    rotate_left
    · simp at hoi
      subst hoi
      refine ⟨by rfl, fun w' hw' => ?_⟩
      go_simp
      all_goals rfl
    try simp only [Act.put, List.setIfInBounds_toArray, List.set_cons_zero, List.set_cons_succ]
    refine later_take (i := 16) (d := 52) (v := ?_) (by kernel_rfl) (by kernel_rfl) (by kernel_rfl) (by kernel_rfl) (fun _ _ _ h => h) (fun oi hoi => ?_) ?_
    rotate_left
    · simp at hoi
      subst hoi
      refine ⟨by rfl, fun w' hw' => ?_⟩
      go_simp
      all_goals rfl
    try simp only [Act.put, List.setIfInBounds_toArray, List.set_cons_zero, List.set_cons_succ]
    refine later_one (i := 13) (by kernel_rfl) (fun oi K hoi hK => ?_)
    simp at hoi
    subst hoi
    refine ⟨by rfl, ?_⟩
    go_simp
    refine (iTreUp_some s S3.out _).mono ?_
    rw [S2.out]
    rintro e wu1 ⟨gu1, mu1, cu1, rfl, hgu1, hpu1, hmu1, hlu1, hxu1, hnu1, hau1, hcu1, hbu1⟩
    clear hau1 hnu1
    go_simp
    refine hK.out _ _ hbu1 ?_
    clear hK
    try simp only [Act.put, List.setIfInBounds_toArray, List.set_cons_zero, List.set_cons_succ]
    refine later_take (i := 14) (d := 50) (v := ?_) (by kernel_rfl) (by kernel_rfl) (by kernel_rfl) (by kernel_rfl) (fun _ _ _ h => h) (fun oi hoi => ?_) ?_
    rotate_left
    · simp at hoi
      subst hoi
      refine ⟨by rfl, fun w' hw' => ?_⟩
      go_simp
      all_goals rfl
    try simp only [Act.put, List.setIfInBounds_toArray, List.set_cons_zero, List.set_cons_succ]
    refine later_take (i := 15) (d := 51) (v := ?_) (by kernel_rfl) (by kernel_rfl) (by kernel_rfl) (by kernel_rfl) (fun _ _ _ h => h) (fun oi hoi => ?_) ?_
    rotate_left
    · simp at hoi
      subst hoi
      refine ⟨by rfl, fun w' hw' => ?_⟩
      have hx := (Below.cell hw' (p := ⟨gu1, 0, none⟩) hgu1).trans hcu1
      go_simp
      all_goals rfl
    try simp only [Act.put, List.setIfInBounds_toArray, List.set_cons_zero, List.set_cons_succ]
    refine later_one (i := 17) (by kernel_rfl) (fun oi K hoi hK => ?_)
    simp at hoi
    subst hoi
    refine ⟨by rfl, ?_⟩
    go_simp
    refine (iTreUp_some o HO.out _).mono ?_
    rintro e wu2 ⟨gu2, mu2, cu2, rfl, hgu2, hpu2, hmu2, hlu2, hxu2, hnu2, hau2, hcu2, hbu2⟩
    clear hau2 hnu2
    go_simp
    refine hK.out _ _ hbu2 ?_
    clear hK
    try simp only [Act.put, List.setIfInBounds_toArray, List.set_cons_zero, List.set_cons_succ]
    refine later_take (i := 18) (d := 54) (v := ?_) (by kernel_rfl) (by kernel_rfl) (by kernel_rfl) (by kernel_rfl) (fun _ _ _ h => h) (fun oi hoi => ?_) ?_
    rotate_left
    · simp at hoi
      subst hoi
      refine ⟨by rfl, fun w' hw' => ?_⟩
      go_simp
      all_goals rfl
    try simp only [Act.put, List.setIfInBounds_toArray, List.set_cons_zero, List.set_cons_succ]
    refine later_take (i := 19) (d := 55) (v := ?_) (by kernel_rfl) (by kernel_rfl) (by kernel_rfl) (by kernel_rfl) (fun _ _ _ h => h) (fun oi hoi => ?_) ?_
    rotate_left
    · simp at hoi
      subst hoi
      refine ⟨by rfl, fun w' hw' => ?_⟩
      have hx := (Below.cell hw' (p := ⟨gu2, 0, none⟩) hgu2).trans hcu2
      go_simp
      all_goals rfl
    try simp only [Act.put, List.setIfInBounds_toArray, List.set_cons_zero, List.set_cons_succ]
    refine later_take (i := 20) (d := 56) (v := ?_) (by kernel_rfl) (by kernel_rfl) (by kernel_rfl) (by kernel_rfl) (fun _ _ _ h => h) (fun oi hoi => ?_) ?_
    rotate_left
    · simp at hoi
      subst hoi
      refine ⟨by rfl, fun w' hw' => ?_⟩
      go_simp
      all_goals rfl
    try simp only [Act.put, List.setIfInBounds_toArray, List.set_cons_zero, List.set_cons_succ]
    refine later_take (i := 21) (d := 57) (v := ?_) (by kernel_rfl) (by kernel_rfl) (by kernel_rfl) (by kernel_rfl) (fun _ _ _ h => h) (fun oi hoi => ?_) ?_
    rotate_left
    · simp at hoi
      subst hoi
      refine ⟨by rfl, fun w' hw' => ?_⟩
      go_simp
      all_goals rfl
    try simp only [Act.put, List.setIfInBounds_toArray, List.set_cons_zero, List.set_cons_succ]
    refine later_take (i := 22) (d := 58) (v := ?_) (by kernel_rfl) (by kernel_rfl) (by kernel_rfl) (by kernel_rfl) (fun _ _ _ h => h) (fun oi hoi => ?_) ?_
    rotate_left
    · simp at hoi
      subst hoi
      refine ⟨by rfl, fun w' hw' => ?_⟩
      go_simp
      all_goals rfl
    try simp only [Act.put, List.setIfInBounds_toArray, List.set_cons_zero, List.set_cons_succ]
    refine later_take (i := 23) (d := 59) (v := ?_) (by kernel_rfl) (by kernel_rfl) (by kernel_rfl) (by kernel_rfl) (fun _ _ _ h => h) (fun oi hoi => ?_) ?_
    rotate_left
    · simp at hoi
      subst hoi
      refine ⟨by rfl, fun w' hw' => ?_⟩
      go_simp
      all_goals rfl
    try simp only [Act.put, List.setIfInBounds_toArray, List.set_cons_zero, List.set_cons_succ]
    refine later_take (i := 24) (d := 60) (v := ?_) (by kernel_rfl) (by kernel_rfl) (by kernel_rfl) (by kernel_rfl) (fun _ _ _ h => h) (fun oi hoi => ?_) ?_
    rotate_left
    · simp at hoi
      subst hoi
      refine ⟨by rfl, fun w' hw' => ?_⟩
      go_simp
      all_goals rfl
    try simp only [Act.put, List.setIfInBounds_toArray, List.set_cons_zero, List.set_cons_succ]
    refine later_take (i := 25) (d := 61) (v := ?_) (by kernel_rfl) (by kernel_rfl) (by kernel_rfl) (by kernel_rfl) (fun _ _ _ h => h) (fun oi hoi => ?_) ?_
    rotate_left
    · simp at hoi
      subst hoi
      refine ⟨by rfl, fun w' hw' => ?_⟩
      go_simp
      all_goals rfl
    try simp only [Act.put, List.setIfInBounds_toArray, List.set_cons_zero, List.set_cons_succ]
    refine later_take (i := 26) (d := 62) (v := ?_) (by kernel_rfl) (by kernel_rfl) (by kernel_rfl) (by kernel_rfl) (fun _ _ _ h => h) (fun oi hoi => ?_) ?_
    rotate_left
    · simp at hoi
      subst hoi
      refine ⟨by rfl, fun w' hw' => ?_⟩
      go_simp
      all_goals rfl
    try simp only [Act.put, List.setIfInBounds_toArray, List.set_cons_zero, List.set_cons_succ]
    refine later_take (i := 27) (d := 63) (v := ?_) (by kernel_rfl) (by kernel_rfl) (by kernel_rfl) (by kernel_rfl) (fun _ _ _ h => h) (fun oi hoi => ?_) ?_
    rotate_left
    · simp at hoi
      subst hoi
      refine ⟨by rfl, fun w' hw' => ?_⟩
      go_simp
      all_goals rfl
    try simp only [Act.put, List.setIfInBounds_toArray, List.set_cons_zero, List.set_cons_succ]
    refine later_done (by kernel_rfl) ?_ _
    have HB6 : Hid (Below w.heap.size w wu2) := (((unhide HB5).drew.trans (hbs1.mono HB5.out.size)).trans (hbu1.mono (Nat.le_trans HB5.out.size hbs1.size))).trans (hbu2.mono (Nat.le_trans (Nat.le_trans HB5.out.size hbs1.size) hbu1.size))
    have G6 := hide (((((unhide G5).drew).below hbs1).below hbu1).below hbu2)
    clear hbs1 hbu1 hbu2 hcu1 hcu2 hgu1 hgu2 hpu1 hpu2 hmu1 hmu2 hlu1 hlu2 hxu1 hxu2 HB5 G5
    by_cases hn : 1 ≤ nd ∧ nd ≤ 14
    · have hc := up_cons nd hn
      have hlast := up_lastI nd hn
      have hxl := over_lt nd (by omega)
      obtain ⟨m, hm⟩ : ∃ m, (upOf nd).length = m + 1 := ⟨(upOf (overOf nd)).length, by rw [hc]; simp⟩
      have hm3 : m ≤ 3 := by
        have : (upOf nd).length ≤ 4 := by rw [upOf_chain]; exact chain_len _
        omega
      have hlast2 := hlast m hm
      obtain ⟨ho, hhi⟩ := unhide G6
      rw [hm] at ho
      rcases ho.2 with ⟨_, q⟩ | ⟨g, cap, cur, rfl, h1, h2, h3, h4, h5, h6⟩
      · omega
      have hcell : ∀ i, i < m + 1 → wu2.cell? ⟨g, i, none⟩ = some (.int .i64 ((upOf nd).getD i 0)) := by
        intro i hi
        rw [ho.cellAt i (by omega), List.getElem?_map, List.getElem?_eq_getElem (by omega), List.getD_eq_getElem?_getD, List.getElem?_eq_getElem (by omega)]
        rfl
      have hc0 : wu2.cell? ⟨g, 0, none⟩ = some (.int .i64 (overOf nd)) := by rw [hcell 0 (by omega), hc]; rfl
      have hcm : wu2.cell? ⟨g, m, none⟩ = some (.int .i64 0) := by rw [hcell m (by omega), hlast2]
      have hgl := (ho.lt g rfl).2
      have d5 : decide (nd ≤ 0) = false := by simp; omega
      have d6 : decide (15 ≤ nd) = false := by simp; omega
      have hx1 : overOf nd < nd := hxl.1
      have i1 : IntKind.i64.wrap ((m : Int) + 1 - 1) = (m : Int) := by simp [IntKind.wrap, IntKind.bits, IntKind.signed]; omega
      have i2 : IntKind.i64.wrap (m : Int) = (m : Int) := by simp [IntKind.wrap, IntKind.bits, IntKind.signed]; omega
      have i3 : (0 : Int) ≤ (m : Int) := by omega
      have i4 : (m : Int) < (m : Int) + 1 := by omega
      have i5 : (1 : Int) ≤ (m : Int) + 1 := by omega
      have HC := hide hcell
      have HU := hide hc
      have HM := hide hm
      clear hcell hc hm h1 h2 h5 h6 ho hlast hlast2 hxl hhi
      have hcap : (1 : Int) ≤ (cap : Int) := by omega
      generalize overOf nd = x at hc0 hx1 HU
      go_wp2_with fail
      refine wp_region_later (by kernel_rfl) ?_
      refine later_take (i := 0) (d := 76) (v := ?_) (by kernel_rfl) (by kernel_rfl) (by kernel_rfl) (by kernel_rfl) (fun _ _ _ h => h) (fun oi hoi => ?_) ?_
      rotate_left
      · simp at hoi
        subst hoi
        refine ⟨by rfl, fun w' hw' => ?_⟩
        go_simp
        all_goals rfl
      try simp only [Act.put, List.setIfInBounds_toArray, List.set_cons_zero, List.set_cons_succ]
      refine later_take (i := 1) (d := 77) (v := ?_) (by kernel_rfl) (by kernel_rfl) (by kernel_rfl) (by kernel_rfl) (fun _ _ _ h => h) (fun oi hoi => ?_) ?_
      rotate_left
      · simp at hoi
        subst hoi
        refine ⟨by rfl, fun w' hw' => ?_⟩
        go_simp
        all_goals rfl
      try simp only [Act.put, List.setIfInBounds_toArray, List.set_cons_zero, List.set_cons_succ]
      refine later_take (i := 2) (d := 78) (v := ?_) (by kernel_rfl) (by kernel_rfl) (by kernel_rfl) (by kernel_rfl) (fun _ _ _ h => h) (fun oi hoi => ?_) ?_
      rotate_left
      · simp at hoi
        subst hoi
        refine ⟨by rfl, fun w' hw' => ?_⟩
        have hx := (Below.cell hw' (p := ⟨g, 0, none⟩) hgl).trans hc0
        go_simp
        all_goals rfl
      try simp only [Act.put, List.setIfInBounds_toArray, List.set_cons_zero, List.set_cons_succ]
      refine later_take (i := 3) (d := 79) (v := ?_) (by kernel_rfl) (by kernel_rfl) (by kernel_rfl) (by kernel_rfl) (fun _ _ _ h => h) (fun oi hoi => ?_) ?_
      rotate_left
      · simp at hoi
        subst hoi
        refine ⟨by rfl, fun w' hw' => ?_⟩
        go_simp
        all_goals rfl
      try simp only [Act.put, List.setIfInBounds_toArray, List.set_cons_zero, List.set_cons_succ]
      refine later_take (i := 4) (d := 80) (v := ?_) (by kernel_rfl) (by kernel_rfl) (by kernel_rfl) (by kernel_rfl) (fun _ _ _ h => h) (fun oi hoi => ?_) ?_
      rotate_left
      · simp at hoi
        subst hoi
        refine ⟨by rfl, fun w' hw' => ?_⟩
        go_simp
        all_goals rfl
      try simp only [Act.put, List.setIfInBounds_toArray, List.set_cons_zero, List.set_cons_succ]
      refine later_take (i := 5) (d := 81) (v := ?_) (by kernel_rfl) (by kernel_rfl) (by kernel_rfl) (by kernel_rfl) (fun _ _ _ h => h) (fun oi hoi => ?_) ?_
      rotate_left
      · simp at hoi
        subst hoi
        refine ⟨by rfl, fun w' hw' => ?_⟩
        go_simp
        all_goals rfl
      try simp only [Act.put, List.setIfInBounds_toArray, List.set_cons_zero, List.set_cons_succ]
      refine later_take (i := 6) (d := 82) (v := ?_) (by kernel_rfl) (by kernel_rfl) (by kernel_rfl) (by kernel_rfl) (fun _ _ _ h => h) (fun oi hoi => ?_) ?_
      rotate_left
      · simp at hoi
        subst hoi
        refine ⟨by rfl, fun w' hw' => ?_⟩
        go_simp
        all_goals rfl
      try simp only [Act.put, List.setIfInBounds_toArray, List.set_cons_zero, List.set_cons_succ]
      refine later_take (i := 7) (d := 83) (v := ?_) (by kernel_rfl) (by kernel_rfl) (by kernel_rfl) (by kernel_rfl) (fun _ _ _ h => h) (fun oi hoi => ?_) ?_
      rotate_left
      · simp at hoi
        subst hoi
        refine ⟨by rfl, fun w' hw' => ?_⟩
        go_simp
        all_goals rfl
      try simp only [Act.put, List.setIfInBounds_toArray, List.set_cons_zero, List.set_cons_succ]
      refine later_take (i := 8) (d := 84) (v := ?_) (by kernel_rfl) (by kernel_rfl) (by kernel_rfl) (by kernel_rfl) (fun _ _ _ h => h) (fun oi hoi => ?_) ?_
      rotate_left
      · simp at hoi
        subst hoi
        refine ⟨by rfl, fun w' hw' => ?_⟩
        go_simp
        all_goals rfl
      try simp only [Act.put, List.setIfInBounds_toArray, List.set_cons_zero, List.set_cons_succ]
      refine later_take (i := 9) (d := 85) (v := ?_) (by kernel_rfl) (by kernel_rfl) (by kernel_rfl) (by kernel_rfl) (fun _ _ _ h => h) (fun oi hoi => ?_) ?_
      rotate_left
      · simp at hoi
        subst hoi
        refine ⟨by rfl, fun w' hw' => ?_⟩
        go_simp
        all_goals rfl
      try simp only [Act.put, List.setIfInBounds_toArray, List.set_cons_zero, List.set_cons_succ]
      refine later_take (i := 10) (d := 86) (v := ?_) (by kernel_rfl) (by kernel_rfl) (by kernel_rfl) (by kernel_rfl) (fun _ _ _ h => h) (fun oi hoi => ?_) ?_
      rotate_left
      · simp at hoi
        subst hoi
        refine ⟨by rfl, fun w' hw' => ?_⟩
        go_simp
        all_goals rfl
      try simp only [Act.put, List.setIfInBounds_toArray, List.set_cons_zero, List.set_cons_succ]
      refine later_take (i := 11) (d := 87) (v := ?_) (by kernel_rfl) (by kernel_rfl) (by kernel_rfl) (by kernel_rfl) (fun _ _ _ h => h) (fun oi hoi => ?_) ?_
      rotate_left
      · simp at hoi
        subst hoi
        refine ⟨by rfl, fun w' hw' => ?_⟩
        have hx := (Below.cell hw' (p := ⟨g, m, none⟩) hgl).trans hcm
        go_simp
        all_goals rfl
      try simp only [Act.put, List.setIfInBounds_toArray, List.set_cons_zero, List.set_cons_succ]
      refine later_take (i := 12) (d := 88) (v := ?_) (by kernel_rfl) (by kernel_rfl) (by kernel_rfl) (by kernel_rfl) (fun _ _ _ h => h) (fun oi hoi => ?_) ?_
      rotate_left
      · simp at hoi
        subst hoi
        refine ⟨by rfl, fun w' hw' => ?_⟩
        go_simp
        all_goals rfl
      try simp only [Act.put, List.setIfInBounds_toArray, List.set_cons_zero, List.set_cons_succ]
      refine later_take (i := 13) (d := 89) (v := ?_) (by kernel_rfl) (by kernel_rfl) (by kernel_rfl) (by kernel_rfl) (fun _ _ _ h => h) (fun oi hoi => ?_) ?_
      rotate_left
      · simp at hoi
        subst hoi
        refine ⟨by rfl, fun w' hw' => ?_⟩
        go_simp
        all_goals rfl
      try simp only [Act.put, List.setIfInBounds_toArray, List.set_cons_zero, List.set_cons_succ]
      refine later_take (i := 14) (d := 90) (v := ?_) (by kernel_rfl) (by kernel_rfl) (by kernel_rfl) (by kernel_rfl) (fun _ _ _ h => h) (fun oi hoi => ?_) ?_
      rotate_left
      · simp at hoi
        subst hoi
        refine ⟨by rfl, fun w' hw' => ?_⟩
        go_simp
        all_goals rfl
      try simp only [Act.put, List.setIfInBounds_toArray, List.set_cons_zero, List.set_cons_succ]
      refine later_take (i := 15) (d := 91) (v := ?_) (by kernel_rfl) (by kernel_rfl) (by kernel_rfl) (by kernel_rfl) (fun _ _ _ h => h) (fun oi hoi => ?_) ?_
      rotate_left
      · simp at hoi
        subst hoi
        refine ⟨by rfl, fun w' hw' => ?_⟩
        go_simp
        all_goals rfl
      try simp only [Act.put, List.setIfInBounds_toArray, List.set_cons_zero, List.set_cons_succ]
      refine later_take (i := 16) (d := 92) (v := ?_) (by kernel_rfl) (by kernel_rfl) (by kernel_rfl) (by kernel_rfl) (fun _ _ _ h => h) (fun oi hoi => ?_) ?_
      rotate_left
      · simp at hoi
        subst hoi
        refine ⟨by rfl, fun w' hw' => ?_⟩
        go_simp
        all_goals rfl
      try simp only [Act.put, List.setIfInBounds_toArray, List.set_cons_zero, List.set_cons_succ]
      refine later_take (i := 17) (d := 93) (v := ?_) (by kernel_rfl) (by kernel_rfl) (by kernel_rfl) (by kernel_rfl) (fun _ _ _ h => h) (fun oi hoi => ?_) ?_
      rotate_left
      · simp at hoi
        subst hoi
        refine ⟨by rfl, fun w' hw' => ?_⟩
        have hx := (Below.cell hw' (p := ⟨g, 0, none⟩) hgl).trans hc0
        go_simp
        all_goals rfl
      try simp only [Act.put, List.setIfInBounds_toArray, List.set_cons_zero, List.set_cons_succ]
      refine later_take (i := 19) (d := 95) (v := ?_) (by kernel_rfl) (by kernel_rfl) (by kernel_rfl) (by kernel_rfl) (fun _ _ _ h => h) (fun oi hoi => ?_) ?_
      rotate_left
      · simp at hoi
        subst hoi
        refine ⟨by rfl, fun w' hw' => ?_⟩
        go_simp
        all_goals rfl
      try simp only [Act.put, List.setIfInBounds_toArray, List.set_cons_zero, List.set_cons_succ]
      refine later_take (i := 20) (d := 96) (v := ?_) (by kernel_rfl) (by kernel_rfl) (by kernel_rfl) (by kernel_rfl) (fun _ _ _ h => h) (fun oi hoi => ?_) ?_
      rotate_left
      · simp at hoi
        subst hoi
        refine ⟨by rfl, fun w' hw' => ?_⟩
        go_simp
        all_goals rfl
      try simp only [Act.put, List.setIfInBounds_toArray, List.set_cons_zero, List.set_cons_succ]
      refine later_one (i := 18) (by kernel_rfl) (fun oi K hoi hK => ?_)
      simp at hoi
      subst hoi
      refine ⟨by rfl, ?_⟩
      go_simp
      refine (iTreUp_any x _).mono ?_
      rintro e wa ⟨va, rfl, hoa, hba⟩
      go_simp
      refine hK.out _ _ hba ?_
      clear hK
      have VA := hide hoa.irow
      have HBA : Hid (Below w.heap.size w wa) := (unhide HB6).drew.trans (hba.mono HB6.out.size)
      have R1 : Hid (IRow wa (.slice (if cap = 1 then some ⟨g, 0, none⟩ else some ⟨g, 1, none⟩) m (cap - 1)) (upOf x)) := tail_row (unhide HU) (unhide HM) h3 h4 (fun i hi => (Below.cell hba (p := ⟨g, i, none⟩) hgl).trans (unhide HC i hi))
      clear hoa hba
      try simp only [Act.put, List.setIfInBounds_toArray, List.set_cons_zero, List.set_cons_succ]
      refine later_one (i := 21) (by kernel_rfl) (fun oi K hoi hK => ?_)
      simp at hoi
      subst hoi
      refine ⟨by rfl, ?_⟩
      go_simp
      refine (keInts_any va _ (upOf x) (upOf x) _ (unhide VA) (unhide R1)).mono ?_
      rw [show decide (upOf x = upOf x) = true by simp]
      rintro e wb ⟨rfl, hbb⟩
      go_simp
      refine hK.out _ _ hbb ?_
      clear hK
      have HBB := hide (HBA.out.trans (hbb.mono HBA.out.size))
      clear hbb
      try simp only [Act.put, List.setIfInBounds_toArray, List.set_cons_zero, List.set_cons_succ]
      refine later_take (i := 22) (d := 98) (v := ?_) (by kernel_rfl) (by kernel_rfl) (by kernel_rfl) (by kernel_rfl) (fun _ _ _ h => h) (fun oi hoi => ?_) ?_
      rotate_left
      · simp at hoi
        subst hoi
        refine ⟨by rfl, fun w' hw' => ?_⟩
        go_simp
        all_goals rfl
      try simp only [Act.put, List.setIfInBounds_toArray, List.set_cons_zero, List.set_cons_succ]
      refine later_take (i := 23) (d := 4) (v := ?_) (by kernel_rfl) (by kernel_rfl) (by kernel_rfl) (by kernel_rfl) (fun _ _ _ h => h) (fun oi hoi => ?_) ?_
      rotate_left
      · simp at hoi
        subst hoi
        refine ⟨by rfl, fun w' hw' => ?_⟩
        go_simp
        all_goals rfl
      try simp only [Act.put, List.setIfInBounds_toArray, List.set_cons_zero, List.set_cons_succ]
      refine later_done (by kernel_rfl) ?_ _
      go_wp2_with fail
      all_goals go_ret
      all_goals exact ⟨rfl, unhide HBB⟩
    · have hu : upOf nd = [] := by
        unfold upOf
        split
        · next q =>
          obtain rfl : nd = 0 := by omega
          rfl
        · rfl
      obtain ⟨ho, hhi⟩ := unhide G6
      rw [hu] at ho
      obtain ⟨ao, cap, hv⟩ := row_form' ho
      subst hv
      clear ho hhi G6
      have HU := hide hu
      clear hu
      rcases (by omega : nd ≤ 0 ∨ 15 ≤ nd) with d5 | d5
      · have HN := hide hn
        clear hn hn1 hn2
        go_wp2_with fail
        refine (keOk_any _).mono ?_
        rintro e wk ⟨rfl, hbk⟩
        go_wp2_with fail
        go_ret
        exact ⟨rfl, HB6.out.trans (hbk.mono HB6.out.size)⟩
      · have d6 : decide (nd ≤ 0) = false := by simp; omega
        have HN := hide hn
        clear hn hn1 hn2
        go_wp2_with fail
        refine (keOk_any _).mono ?_
        rintro e wk ⟨rfl, hbk⟩
        go_wp2_with fail
        go_ret
        exact ⟨rfl, HB6.out.trans (hbk.mono HB6.out.size)⟩
  · have HO := hide ho
    rcases (by omega : o < 1 ∨ 15 ≤ o) with d | d
    · have d1 : decide (1 ≤ o) = false := by simp; omega
      clear d ho ho1 ho2
      generalize sideOf o = s
      go_wp2_with fail
      go_quiet (fail)
      have HB6 : Hid (Below w.heap.size w (w6.drewN nq)) := below_drewN (unhide HB5) nq
      have G6 : Hid (IIn w1.heap.size w2.heap.size (w6.drewN nq) v2 (upOf nd)) := (unhide G5).below (below_drewN (Below.refl _ _) nq)
      clear HB5 G5
      generalize w6.drewN nq = w7 at HB6 G6 ⊢
      by_cases hn : 1 ≤ nd ∧ nd ≤ 14
      · have hc := up_cons nd hn
        have hlast := up_lastI nd hn
        have hxl := over_lt nd (by omega)
        obtain ⟨m, hm⟩ : ∃ m, (upOf nd).length = m + 1 := ⟨(upOf (overOf nd)).length, by rw [hc]; simp⟩
        have hm3 : m ≤ 3 := by
          have : (upOf nd).length ≤ 4 := by rw [upOf_chain]; exact chain_len _
          omega
        have hlast2 := hlast m hm
        obtain ⟨ho, hhi⟩ := unhide G6
        rw [hm] at ho
        rcases ho.2 with ⟨_, q⟩ | ⟨g, cap, cur, rfl, h1, h2, h3, h4, h5, h6⟩
        · omega
        have hcell : ∀ i, i < m + 1 → w7.cell? ⟨g, i, none⟩ = some (.int .i64 ((upOf nd).getD i 0)) := by
          intro i hi
          rw [ho.cellAt i (by omega), List.getElem?_map, List.getElem?_eq_getElem (by omega), List.getD_eq_getElem?_getD, List.getElem?_eq_getElem (by omega)]
          rfl
        have hc0 : w7.cell? ⟨g, 0, none⟩ = some (.int .i64 (overOf nd)) := by rw [hcell 0 (by omega), hc]; rfl
        have hcm : w7.cell? ⟨g, m, none⟩ = some (.int .i64 0) := by rw [hcell m (by omega), hlast2]
        have hgl := (ho.lt g rfl).2
        have d5 : decide (nd ≤ 0) = false := by simp; omega
        have d6 : decide (15 ≤ nd) = false := by simp; omega
        have hx1 : overOf nd < nd := hxl.1
        have i1 : IntKind.i64.wrap ((m : Int) + 1 - 1) = (m : Int) := by simp [IntKind.wrap, IntKind.bits, IntKind.signed]; omega
        have i2 : IntKind.i64.wrap (m : Int) = (m : Int) := by simp [IntKind.wrap, IntKind.bits, IntKind.signed]; omega
        have i3 : (0 : Int) ≤ (m : Int) := by omega
        have i4 : (m : Int) < (m : Int) + 1 := by omega
        have i5 : (1 : Int) ≤ (m : Int) + 1 := by omega
        have HC := hide hcell
        have HU := hide hc
        have HM := hide hm
        clear hcell hc hm h1 h2 h5 h6 ho hlast hlast2 hxl hhi
        have hcap : (1 : Int) ≤ (cap : Int) := by omega
        generalize overOf nd = x at hc0 hx1 HU
        go_wp2_with fail
        refine wp_region_later (by kernel_rfl) ?_
        refine later_take (i := 0) (d := 76) (v := ?_) (by kernel_rfl) (by kernel_rfl) (by kernel_rfl) (by kernel_rfl) (fun _ _ _ h => h) (fun oi hoi => ?_) ?_
        rotate_left
        · simp at hoi
          subst hoi
          refine ⟨by rfl, fun w' hw' => ?_⟩
          go_simp
          all_goals rfl
        try simp only [Act.put, List.setIfInBounds_toArray, List.set_cons_zero, List.set_cons_succ]
        refine later_take (i := 1) (d := 77) (v := ?_) (by kernel_rfl) (by kernel_rfl) (by kernel_rfl) (by kernel_rfl) (fun _ _ _ h => h) (fun oi hoi => ?_) ?_
        rotate_left
        · simp at hoi
          subst hoi
          refine ⟨by rfl, fun w' hw' => ?_⟩
          go_simp
          all_goals rfl
        try simp only [Act.put, List.setIfInBounds_toArray, List.set_cons_zero, List.set_cons_succ]
        refine later_take (i := 2) (d := 78) (v := ?_) (by kernel_rfl) (by kernel_rfl) (by kernel_rfl) (by kernel_rfl) (fun _ _ _ h => h) (fun oi hoi => ?_) ?_
        rotate_left
        · simp at hoi
          subst hoi
          refine ⟨by rfl, fun w' hw' => ?_⟩
          have hx := (Below.cell hw' (p := ⟨g, 0, none⟩) hgl).trans hc0
          go_simp
          all_goals rfl
        try simp only [Act.put, List.setIfInBounds_toArray, List.set_cons_zero, List.set_cons_succ]
        refine later_take (i := 3) (d := 79) (v := ?_) (by kernel_rfl) (by kernel_rfl) (by kernel_rfl) (by kernel_rfl) (fun _ _ _ h => h) (fun oi hoi => ?_) ?_
        rotate_left
        · simp at hoi
          subst hoi
          refine ⟨by rfl, fun w' hw' => ?_⟩
          go_simp
          all_goals rfl
        try simp only [Act.put, List.setIfInBounds_toArray, List.set_cons_zero, List.set_cons_succ]
        refine later_take (i := 4) (d := 80) (v := ?_) (by kernel_rfl) (by kernel_rfl) (by kernel_rfl) (by kernel_rfl) (fun _ _ _ h => h) (fun oi hoi => ?_) ?_
        rotate_left
        · simp at hoi
          subst hoi
          refine ⟨by rfl, fun w' hw' => ?_⟩
          go_simp
          all_goals rfl
        try simp only [Act.put, List.setIfInBounds_toArray, List.set_cons_zero, List.set_cons_succ]
        refine later_take (i := 5) (d := 81) (v := ?_) (by kernel_rfl) (by kernel_rfl) (by kernel_rfl) (by kernel_rfl) (fun _ _ _ h => h) (fun oi hoi => ?_) ?_
        rotate_left
        · simp at hoi
          subst hoi
          refine ⟨by rfl, fun w' hw' => ?_⟩
          go_simp
          all_goals rfl
        try simp only [Act.put, List.setIfInBounds_toArray, List.set_cons_zero, List.set_cons_succ]
        refine later_take (i := 6) (d := 82) (v := ?_) (by kernel_rfl) (by kernel_rfl) (by kernel_rfl) (by kernel_rfl) (fun _ _ _ h => h) (fun oi hoi => ?_) ?_
        rotate_left
        · simp at hoi
          subst hoi
          refine ⟨by rfl, fun w' hw' => ?_⟩
          go_simp
          all_goals rfl
        try simp only [Act.put, List.setIfInBounds_toArray, List.set_cons_zero, List.set_cons_succ]
        refine later_take (i := 7) (d := 83) (v := ?_) (by kernel_rfl) (by kernel_rfl) (by kernel_rfl) (by kernel_rfl) (fun _ _ _ h => h) (fun oi hoi => ?_) ?_
        rotate_left
        · simp at hoi
          subst hoi
          refine ⟨by rfl, fun w' hw' => ?_⟩
          go_simp
          all_goals rfl
        try simp only [Act.put, List.setIfInBounds_toArray, List.set_cons_zero, List.set_cons_succ]
        refine later_take (i := 8) (d := 84) (v := ?_) (by kernel_rfl) (by kernel_rfl) (by kernel_rfl) (by kernel_rfl) (fun _ _ _ h => h) (fun oi hoi => ?_) ?_
        rotate_left
        · simp at hoi
          subst hoi
          refine ⟨by rfl, fun w' hw' => ?_⟩
          go_simp
          all_goals rfl
        try simp only [Act.put, List.setIfInBounds_toArray, List.set_cons_zero, List.set_cons_succ]
        refine later_take (i := 9) (d := 85) (v := ?_) (by kernel_rfl) (by kernel_rfl) (by kernel_rfl) (by kernel_rfl) (fun _ _ _ h => h) (fun oi hoi => ?_) ?_
        rotate_left
        · simp at hoi
          subst hoi
          refine ⟨by rfl, fun w' hw' => ?_⟩
          go_simp
          all_goals rfl
        try simp only [Act.put, List.setIfInBounds_toArray, List.set_cons_zero, List.set_cons_succ]
        refine later_take (i := 10) (d := 86) (v := ?_) (by kernel_rfl) (by kernel_rfl) (by kernel_rfl) (by kernel_rfl) (fun _ _ _ h => h) (fun oi hoi => ?_) ?_
        rotate_left
        · simp at hoi
          subst hoi
          refine ⟨by rfl, fun w' hw' => ?_⟩
          go_simp
          all_goals rfl
        try simp only [Act.put, List.setIfInBounds_toArray, List.set_cons_zero, List.set_cons_succ]
        refine later_take (i := 11) (d := 87) (v := ?_) (by kernel_rfl) (by kernel_rfl) (by kernel_rfl) (by kernel_rfl) (fun _ _ _ h => h) (fun oi hoi => ?_) ?_
        rotate_left
        · simp at hoi
          subst hoi
          refine ⟨by rfl, fun w' hw' => ?_⟩
          have hx := (Below.cell hw' (p := ⟨g, m, none⟩) hgl).trans hcm
          go_simp
          all_goals rfl
        try simp only [Act.put, List.setIfInBounds_toArray, List.set_cons_zero, List.set_cons_succ]
        refine later_take (i := 12) (d := 88) (v := ?_) (by kernel_rfl) (by kernel_rfl) (by kernel_rfl) (by kernel_rfl) (fun _ _ _ h => h) (fun oi hoi => ?_) ?_
        rotate_left
        · simp at hoi
          subst hoi
          refine ⟨by rfl, fun w' hw' => ?_⟩
          go_simp
          all_goals rfl
        try simp only [Act.put, List.setIfInBounds_toArray, List.set_cons_zero, List.set_cons_succ]
        refine later_take (i := 13) (d := 89) (v := ?_) (by kernel_rfl) (by kernel_rfl) (by kernel_rfl) (by kernel_rfl) (fun _ _ _ h => h) (fun oi hoi => ?_) ?_
        rotate_left
        · simp at hoi
          subst hoi
          refine ⟨by rfl, fun w' hw' => ?_⟩
          go_simp
          all_goals rfl
        try simp only [Act.put, List.setIfInBounds_toArray, List.set_cons_zero, List.set_cons_succ]
        refine later_take (i := 14) (d := 90) (v := ?_) (by kernel_rfl) (by kernel_rfl) (by kernel_rfl) (by kernel_rfl) (fun _ _ _ h => h) (fun oi hoi => ?_) ?_
        rotate_left
        · simp at hoi
          subst hoi
          refine ⟨by rfl, fun w' hw' => ?_⟩
          go_simp
          all_goals rfl
        try simp only [Act.put, List.setIfInBounds_toArray, List.set_cons_zero, List.set_cons_succ]
        refine later_take (i := 15) (d := 91) (v := ?_) (by kernel_rfl) (by kernel_rfl) (by kernel_rfl) (by kernel_rfl) (fun _ _ _ h => h) (fun oi hoi => ?_) ?_
        rotate_left
        · simp at hoi
          subst hoi
          refine ⟨by rfl, fun w' hw' => ?_⟩
          go_simp
          all_goals rfl
        try simp only [Act.put, List.setIfInBounds_toArray, List.set_cons_zero, List.set_cons_succ]
        refine later_take (i := 16) (d := 92) (v := ?_) (by kernel_rfl) (by kernel_rfl) (by kernel_rfl) (by kernel_rfl) (fun _ _ _ h => h) (fun oi hoi => ?_) ?_
        rotate_left
        · simp at hoi
          subst hoi
          refine ⟨by rfl, fun w' hw' => ?_⟩
          go_simp
          all_goals rfl
        try simp only [Act.put, List.setIfInBounds_toArray, List.set_cons_zero, List.set_cons_succ]
        refine later_take (i := 17) (d := 93) (v := ?_) (by kernel_rfl) (by kernel_rfl) (by kernel_rfl) (by kernel_rfl) (fun _ _ _ h => h) (fun oi hoi => ?_) ?_
        rotate_left
        · simp at hoi
          subst hoi
          refine ⟨by rfl, fun w' hw' => ?_⟩
          have hx := (Below.cell hw' (p := ⟨g, 0, none⟩) hgl).trans hc0
          go_simp
          all_goals rfl
        try simp only [Act.put, List.setIfInBounds_toArray, List.set_cons_zero, List.set_cons_succ]
        refine later_take (i := 19) (d := 95) (v := ?_) (by kernel_rfl) (by kernel_rfl) (by kernel_rfl) (by kernel_rfl) (fun _ _ _ h => h) (fun oi hoi => ?_) ?_
        rotate_left
        · simp at hoi
          subst hoi
          refine ⟨by rfl, fun w' hw' => ?_⟩
          go_simp
          all_goals rfl
        try simp only [Act.put, List.setIfInBounds_toArray, List.set_cons_zero, List.set_cons_succ]
        refine later_take (i := 20) (d := 96) (v := ?_) (by kernel_rfl) (by kernel_rfl) (by kernel_rfl) (by kernel_rfl) (fun _ _ _ h => h) (fun oi hoi => ?_) ?_
        rotate_left
        · simp at hoi
          subst hoi
          refine ⟨by rfl, fun w' hw' => ?_⟩
          go_simp
          all_goals rfl
        try simp only [Act.put, List.setIfInBounds_toArray, List.set_cons_zero, List.set_cons_succ]
        refine later_one (i := 18) (by kernel_rfl) (fun oi K hoi hK => ?_)
        simp at hoi
        subst hoi
        refine ⟨by rfl, ?_⟩
        go_simp
        refine (iTreUp_any x _).mono ?_
        rintro e wa ⟨va, rfl, hoa, hba⟩
        go_simp
        refine hK.out _ _ hba ?_
        clear hK
        have VA := hide hoa.irow
        have HBA : Hid (Below w.heap.size w wa) := (unhide HB6).drew.trans (hba.mono HB6.out.size)
        have R1 : Hid (IRow wa (.slice (if cap = 1 then some ⟨g, 0, none⟩ else some ⟨g, 1, none⟩) m (cap - 1)) (upOf x)) := tail_row (unhide HU) (unhide HM) h3 h4 (fun i hi => (Below.cell hba (p := ⟨g, i, none⟩) hgl).trans (unhide HC i hi))
        clear hoa hba
        try simp only [Act.put, List.setIfInBounds_toArray, List.set_cons_zero, List.set_cons_succ]
        refine later_one (i := 21) (by kernel_rfl) (fun oi K hoi hK => ?_)
        simp at hoi
        subst hoi
        refine ⟨by rfl, ?_⟩
        go_simp
        refine (keInts_any va _ (upOf x) (upOf x) _ (unhide VA) (unhide R1)).mono ?_
        rw [show decide (upOf x = upOf x) = true by simp]
        rintro e wb ⟨rfl, hbb⟩
        go_simp
        refine hK.out _ _ hbb ?_
        clear hK
        have HBB := hide (HBA.out.trans (hbb.mono HBA.out.size))
        clear hbb
        try simp only [Act.put, List.setIfInBounds_toArray, List.set_cons_zero, List.set_cons_succ]
        refine later_take (i := 22) (d := 98) (v := ?_) (by kernel_rfl) (by kernel_rfl) (by kernel_rfl) (by kernel_rfl) (fun _ _ _ h => h) (fun oi hoi => ?_) ?_
        rotate_left
        · simp at hoi
          subst hoi
          refine ⟨by rfl, fun w' hw' => ?_⟩
          go_simp
          all_goals rfl
        try simp only [Act.put, List.setIfInBounds_toArray, List.set_cons_zero, List.set_cons_succ]
        refine later_take (i := 23) (d := 4) (v := ?_) (by kernel_rfl) (by kernel_rfl) (by kernel_rfl) (by kernel_rfl) (fun _ _ _ h => h) (fun oi hoi => ?_) ?_
        rotate_left
        · simp at hoi
          subst hoi
          refine ⟨by rfl, fun w' hw' => ?_⟩
          go_simp
          all_goals rfl
        try simp only [Act.put, List.setIfInBounds_toArray, List.set_cons_zero, List.set_cons_succ]
        refine later_done (by kernel_rfl) ?_ _
        go_wp2_with fail
        all_goals go_ret
        all_goals exact ⟨rfl, unhide HBB⟩
      · have hu : upOf nd = [] := by
          unfold upOf
          split
          · next q =>
            obtain rfl : nd = 0 := by omega
            rfl
          · rfl
        obtain ⟨ho, hhi⟩ := unhide G6
        rw [hu] at ho
        obtain ⟨ao, cap, hv⟩ := row_form' ho
        subst hv
        clear ho hhi G6
        have HU := hide hu
        clear hu
        rcases (by omega : nd ≤ 0 ∨ 15 ≤ nd) with d5 | d5
        · have HN := hide hn
          clear hn hn1 hn2
          go_wp2_with fail
          refine (keOk_any _).mono ?_
          rintro e wk ⟨rfl, hbk⟩
          go_wp2_with fail
          go_ret
          exact ⟨rfl, HB6.out.trans (hbk.mono HB6.out.size)⟩
        · have d6 : decide (nd ≤ 0) = false := by simp; omega
          have HN := hide hn
          clear hn hn1 hn2
          go_wp2_with fail
          refine (keOk_any _).mono ?_
          rintro e wk ⟨rfl, hbk⟩
          go_wp2_with fail
          go_ret
          exact ⟨rfl, HB6.out.trans (hbk.mono HB6.out.size)⟩
    · have d1 : 1 ≤ o := by omega
      have d2 : decide (o < 15) = false := by simp; omega
      clear d ho ho1 ho2
      generalize sideOf o = s
      go_wp2_with fail
      go_quiet (fail)
      have HB6 : Hid (Below w.heap.size w (w6.drewN nq)) := below_drewN (unhide HB5) nq
      have G6 : Hid (IIn w1.heap.size w2.heap.size (w6.drewN nq) v2 (upOf nd)) := (unhide G5).below (below_drewN (Below.refl _ _) nq)
      clear HB5 G5
      generalize w6.drewN nq = w7 at HB6 G6 ⊢
      by_cases hn : 1 ≤ nd ∧ nd ≤ 14
      · have hc := up_cons nd hn
        have hlast := up_lastI nd hn
        have hxl := over_lt nd (by omega)
        obtain ⟨m, hm⟩ : ∃ m, (upOf nd).length = m + 1 := ⟨(upOf (overOf nd)).length, by rw [hc]; simp⟩
        have hm3 : m ≤ 3 := by
          have : (upOf nd).length ≤ 4 := by rw [upOf_chain]; exact chain_len _
          omega
        have hlast2 := hlast m hm
        obtain ⟨ho, hhi⟩ := unhide G6
        rw [hm] at ho
        rcases ho.2 with ⟨_, q⟩ | ⟨g, cap, cur, rfl, h1, h2, h3, h4, h5, h6⟩
        · omega
        have hcell : ∀ i, i < m + 1 → w7.cell? ⟨g, i, none⟩ = some (.int .i64 ((upOf nd).getD i 0)) := by
          intro i hi
          rw [ho.cellAt i (by omega), List.getElem?_map, List.getElem?_eq_getElem (by omega), List.getD_eq_getElem?_getD, List.getElem?_eq_getElem (by omega)]
          rfl
        have hc0 : w7.cell? ⟨g, 0, none⟩ = some (.int .i64 (overOf nd)) := by rw [hcell 0 (by omega), hc]; rfl
        have hcm : w7.cell? ⟨g, m, none⟩ = some (.int .i64 0) := by rw [hcell m (by omega), hlast2]
        have hgl := (ho.lt g rfl).2
        have d5 : decide (nd ≤ 0) = false := by simp; omega
        have d6 : decide (15 ≤ nd) = false := by simp; omega
        have hx1 : overOf nd < nd := hxl.1
        have i1 : IntKind.i64.wrap ((m : Int) + 1 - 1) = (m : Int) := by simp [IntKind.wrap, IntKind.bits, IntKind.signed]; omega
        have i2 : IntKind.i64.wrap (m : Int) = (m : Int) := by simp [IntKind.wrap, IntKind.bits, IntKind.signed]; omega
        have i3 : (0 : Int) ≤ (m : Int) := by omega
        have i4 : (m : Int) < (m : Int) + 1 := by omega
        have i5 : (1 : Int) ≤ (m : Int) + 1 := by omega
        have HC := hide hcell
        have HU := hide hc
        have HM := hide hm
        clear hcell hc hm h1 h2 h5 h6 ho hlast hlast2 hxl hhi
        have hcap : (1 : Int) ≤ (cap : Int) := by omega
        generalize overOf nd = x at hc0 hx1 HU
        go_wp2_with fail
        refine wp_region_later (by kernel_rfl) ?_
        refine later_take (i := 0) (d := 76) (v := ?_) (by kernel_rfl) (by kernel_rfl) (by kernel_rfl) (by kernel_rfl) (fun _ _ _ h => h) (fun oi hoi => ?_) ?_
        rotate_left
        · simp at hoi
          subst hoi
          refine ⟨by rfl, fun w' hw' => ?_⟩
          go_simp
          all_goals rfl
        try simp only [Act.put, List.setIfInBounds_toArray, List.set_cons_zero, List.set_cons_succ]
        refine later_take (i := 1) (d := 77) (v := ?_) (by kernel_rfl) (by kernel_rfl) (by kernel_rfl) (by kernel_rfl) (fun _ _ _ h => h) (fun oi hoi => ?_) ?_
        rotate_left
        · simp at hoi
          subst hoi
          refine ⟨by rfl, fun w' hw' => ?_⟩
          go_simp
          all_goals rfl
        try simp only [Act.put, List.setIfInBounds_toArray, List.set_cons_zero, List.set_cons_succ]
        refine later_take (i := 2) (d := 78) (v := ?_) (by kernel_rfl) (by kernel_rfl) (by kernel_rfl) (by kernel_rfl) (fun _ _ _ h => h) (fun oi hoi => ?_) ?_
        rotate_left
        · simp at hoi
          subst hoi
          refine ⟨by rfl, fun w' hw' => ?_⟩
          have hx := (Below.cell hw' (p := ⟨g, 0, none⟩) hgl).trans hc0
          go_simp
          all_goals rfl
        try simp only [Act.put, List.setIfInBounds_toArray, List.set_cons_zero, List.set_cons_succ]
        refine later_take (i := 3) (d := 79) (v := ?_) (by kernel_rfl) (by kernel_rfl) (by kernel_rfl) (by kernel_rfl) (fun _ _ _ h => h) (fun oi hoi => ?_) ?_
        rotate_left
        · simp at hoi
          subst hoi
          refine ⟨by rfl, fun w' hw' => ?_⟩
          go_simp
          all_goals rfl
        try simp only [Act.put, List.setIfInBounds_toArray, List.set_cons_zero, List.set_cons_succ]
        refine later_take (i := 4) (d := 80) (v := ?_) (by kernel_rfl) (by kernel_rfl) (by kernel_rfl) (by kernel_rfl) (fun _ _ _ h => h) (fun oi hoi => ?_) ?_
        rotate_left
        · simp at hoi
          subst hoi
          refine ⟨by rfl, fun w' hw' => ?_⟩
          go_simp
          all_goals rfl
        try simp only [Act.put, List.setIfInBounds_toArray, List.set_cons_zero, List.set_cons_succ]
        refine later_take (i := 5) (d := 81) (v := ?_) (by kernel_rfl) (by kernel_rfl) (by kernel_rfl) (by kernel_rfl) (fun _ _ _ h => h) (fun oi hoi => ?_) ?_
        rotate_left
        · simp at hoi
          subst hoi
          refine ⟨by rfl, fun w' hw' => ?_⟩
          go_simp
          all_goals rfl
        try simp only [Act.put, List.setIfInBounds_toArray, List.set_cons_zero, List.set_cons_succ]
        refine later_take (i := 6) (d := 82) (v := ?_) (by kernel_rfl) (by kernel_rfl) (by kernel_rfl) (by kernel_rfl) (fun _ _ _ h => h) (fun oi hoi => ?_) ?_
        rotate_left
        · simp at hoi
          subst hoi
          refine ⟨by rfl, fun w' hw' => ?_⟩
          go_simp
          all_goals rfl
        try simp only [Act.put, List.setIfInBounds_toArray, List.set_cons_zero, List.set_cons_succ]
        refine later_take (i := 7) (d := 83) (v := ?_) (by kernel_rfl) (by kernel_rfl) (by kernel_rfl) (by kernel_rfl) (fun _ _ _ h => h) (fun oi hoi => ?_) ?_
        rotate_left
        · simp at hoi
          subst hoi
          refine ⟨by rfl, fun w' hw' => ?_⟩
          go_simp
          all_goals rfl
        try simp only [Act.put, List.setIfInBounds_toArray, List.set_cons_zero, List.set_cons_succ]
        refine later_take (i := 8) (d := 84) (v := ?_) (by kernel_rfl) (by kernel_rfl) (by kernel_rfl) (by kernel_rfl) (fun _ _ _ h => h) (fun oi hoi => ?_) ?_
        rotate_left
        · simp at hoi
          subst hoi
          refine ⟨by rfl, fun w' hw' => ?_⟩
          go_simp
          all_goals rfl
        try simp only [Act.put, List.setIfInBounds_toArray, List.set_cons_zero, List.set_cons_succ]
        refine later_take (i := 9) (d := 85) (v := ?_) (by kernel_rfl) (by kernel_rfl) (by kernel_rfl) (by kernel_rfl) (fun _ _ _ h => h) (fun oi hoi => ?_) ?_
        rotate_left
        · simp at hoi
          subst hoi
          refine ⟨by rfl, fun w' hw' => ?_⟩
          go_simp
          all_goals rfl
        try simp only [Act.put, List.setIfInBounds_toArray, List.set_cons_zero, List.set_cons_succ]
        refine later_take (i := 10) (d := 86) (v := ?_) (by kernel_rfl) (by kernel_rfl) (by kernel_rfl) (by kernel_rfl) (fun _ _ _ h => h) (fun oi hoi => ?_) ?_
        rotate_left
        · simp at hoi
          subst hoi
          refine ⟨by rfl, fun w' hw' => ?_⟩
          go_simp
          all_goals rfl
        try simp only [Act.put, List.setIfInBounds_toArray, List.set_cons_zero, List.set_cons_succ]
        refine later_take (i := 11) (d := 87) (v := ?_) (by kernel_rfl) (by kernel_rfl) (by kernel_rfl) (by kernel_rfl) (fun _ _ _ h => h) (fun oi hoi => ?_) ?_
        rotate_left
        · simp at hoi
          subst hoi
          refine ⟨by rfl, fun w' hw' => ?_⟩
          have hx := (Below.cell hw' (p := ⟨g, m, none⟩) hgl).trans hcm
          go_simp
          all_goals rfl
        try simp only [Act.put, List.setIfInBounds_toArray, List.set_cons_zero, List.set_cons_succ]
        refine later_take (i := 12) (d := 88) (v := ?_) (by kernel_rfl) (by kernel_rfl) (by kernel_rfl) (by kernel_rfl) (fun _ _ _ h => h) (fun oi hoi => ?_) ?_
        rotate_left
        · simp at hoi
          subst hoi
          refine ⟨by rfl, fun w' hw' => ?_⟩
          go_simp
          all_goals rfl
        try simp only [Act.put, List.setIfInBounds_toArray, List.set_cons_zero, List.set_cons_succ]
        refine later_take (i := 13) (d := 89) (v := ?_) (by kernel_rfl) (by kernel_rfl) (by kernel_rfl) (by kernel_rfl) (fun _ _ _ h => h) (fun oi hoi => ?_) ?_
        rotate_left
        · simp at hoi
          subst hoi
          refine ⟨by rfl, fun w' hw' => ?_⟩
          go_simp
          all_goals rfl
        try simp only [Act.put, List.setIfInBounds_toArray, List.set_cons_zero, List.set_cons_succ]
        refine later_take (i := 14) (d := 90) (v := ?_) (by kernel_rfl) (by kernel_rfl) (by kernel_rfl) (by kernel_rfl) (fun _ _ _ h => h) (fun oi hoi => ?_) ?_
        rotate_left
        · simp at hoi
          subst hoi
          refine ⟨by rfl, fun w' hw' => ?_⟩
          go_simp
          all_goals rfl
        try simp only [Act.put, List.setIfInBounds_toArray, List.set_cons_zero, List.set_cons_succ]
        refine later_take (i := 15) (d := 91) (v := ?_) (by kernel_rfl) (by kernel_rfl) (by kernel_rfl) (by kernel_rfl) (fun _ _ _ h => h) (fun oi hoi => ?_) ?_
        rotate_left
        · simp at hoi
          subst hoi
          refine ⟨by rfl, fun w' hw' => ?_⟩
          go_simp
          all_goals rfl
        try simp only [Act.put, List.setIfInBounds_toArray, List.set_cons_zero, List.set_cons_succ]
        refine later_take (i := 16) (d := 92) (v := ?_) (by kernel_rfl) (by kernel_rfl) (by kernel_rfl) (by kernel_rfl) (fun _ _ _ h => h) (fun oi hoi => ?_) ?_
        rotate_left
        · simp at hoi
          subst hoi
          refine ⟨by rfl, fun w' hw' => ?_⟩
          go_simp
          all_goals rfl
        try simp only [Act.put, List.setIfInBounds_toArray, List.set_cons_zero, List.set_cons_succ]
        refine later_take (i := 17) (d := 93) (v := ?_) (by kernel_rfl) (by kernel_rfl) (by kernel_rfl) (by kernel_rfl) (fun _ _ _ h => h) (fun oi hoi => ?_) ?_
        rotate_left
        · simp at hoi
          subst hoi
          refine ⟨by rfl, fun w' hw' => ?_⟩
          have hx := (Below.cell hw' (p := ⟨g, 0, none⟩) hgl).trans hc0
          go_simp
          all_goals rfl
        try simp only [Act.put, List.setIfInBounds_toArray, List.set_cons_zero, List.set_cons_succ]
        refine later_take (i := 19) (d := 95) (v := ?_) (by kernel_rfl) (by kernel_rfl) (by kernel_rfl) (by kernel_rfl) (fun _ _ _ h => h) (fun oi hoi => ?_) ?_
        rotate_left
        · simp at hoi
          subst hoi
          refine ⟨by rfl, fun w' hw' => ?_⟩
          go_simp
          all_goals rfl
        try simp only [Act.put, List.setIfInBounds_toArray, List.set_cons_zero, List.set_cons_succ]
        refine later_take (i := 20) (d := 96) (v := ?_) (by kernel_rfl) (by kernel_rfl) (by kernel_rfl) (by kernel_rfl) (fun _ _ _ h => h) (fun oi hoi => ?_) ?_
        rotate_left
        · simp at hoi
          subst hoi
          refine ⟨by rfl, fun w' hw' => ?_⟩
          go_simp
          all_goals rfl
        try simp only [Act.put, List.setIfInBounds_toArray, List.set_cons_zero, List.set_cons_succ]
        refine later_one (i := 18) (by kernel_rfl) (fun oi K hoi hK => ?_)
        simp at hoi
        subst hoi
        refine ⟨by rfl, ?_⟩
        go_simp
        refine (iTreUp_any x _).mono ?_
        rintro e wa ⟨va, rfl, hoa, hba⟩
        go_simp
        refine hK.out _ _ hba ?_
        clear hK
        have VA := hide hoa.irow
        have HBA : Hid (Below w.heap.size w wa) := (unhide HB6).drew.trans (hba.mono HB6.out.size)
        have R1 : Hid (IRow wa (.slice (if cap = 1 then some ⟨g, 0, none⟩ else some ⟨g, 1, none⟩) m (cap - 1)) (upOf x)) := tail_row (unhide HU) (unhide HM) h3 h4 (fun i hi => (Below.cell hba (p := ⟨g, i, none⟩) hgl).trans (unhide HC i hi))
        clear hoa hba
        try simp only [Act.put, List.setIfInBounds_toArray, List.set_cons_zero, List.set_cons_succ]
        refine later_one (i := 21) (by kernel_rfl) (fun oi K hoi hK => ?_)
        simp at hoi
        subst hoi
        refine ⟨by rfl, ?_⟩
        go_simp
        refine (keInts_any va _ (upOf x) (upOf x) _ (unhide VA) (unhide R1)).mono ?_
        rw [show decide (upOf x = upOf x) = true by simp]
        rintro e wb ⟨rfl, hbb⟩
        go_simp
        refine hK.out _ _ hbb ?_
        clear hK
        have HBB := hide (HBA.out.trans (hbb.mono HBA.out.size))
        clear hbb
        try simp only [Act.put, List.setIfInBounds_toArray, List.set_cons_zero, List.set_cons_succ]
        refine later_take (i := 22) (d := 98) (v := ?_) (by kernel_rfl) (by kernel_rfl) (by kernel_rfl) (by kernel_rfl) (fun _ _ _ h => h) (fun oi hoi => ?_) ?_
        rotate_left
        · simp at hoi
          subst hoi
          refine ⟨by rfl, fun w' hw' => ?_⟩
          go_simp
          all_goals rfl
        try simp only [Act.put, List.setIfInBounds_toArray, List.set_cons_zero, List.set_cons_succ]
        refine later_take (i := 23) (d := 4) (v := ?_) (by kernel_rfl) (by kernel_rfl) (by kernel_rfl) (by kernel_rfl) (fun _ _ _ h => h) (fun oi hoi => ?_) ?_
        rotate_left
        · simp at hoi
          subst hoi
          refine ⟨by rfl, fun w' hw' => ?_⟩
          go_simp
          all_goals rfl
        try simp only [Act.put, List.setIfInBounds_toArray, List.set_cons_zero, List.set_cons_succ]
        refine later_done (by kernel_rfl) ?_ _
        go_wp2_with fail
        all_goals go_ret
        all_goals exact ⟨rfl, unhide HBB⟩
      · have hu : upOf nd = [] := by
          unfold upOf
          split
          · next q =>
            obtain rfl : nd = 0 := by omega
            rfl
          · rfl
        obtain ⟨ho, hhi⟩ := unhide G6
        rw [hu] at ho
        obtain ⟨ao, cap, hv⟩ := row_form' ho
        subst hv
        clear ho hhi G6
        have HU := hide hu
        clear hu
        rcases (by omega : nd ≤ 0 ∨ 15 ≤ nd) with d5 | d5
        · have HN := hide hn
          clear hn hn1 hn2
          go_wp2_with fail
          refine (keOk_any _).mono ?_
          rintro e wk ⟨rfl, hbk⟩
          go_wp2_with fail
          go_ret
          exact ⟨rfl, HB6.out.trans (hbk.mono HB6.out.size)⟩
        · have d6 : decide (nd ≤ 0) = false := by simp; omega
          have HN := hide hn
          clear hn hn1 hn2
          go_wp2_with fail
          refine (keOk_any _).mono ?_
          rintro e wk ⟨rfl, hbk⟩
          go_wp2_with fail
          go_ret
          exact ⟨rfl, HB6.out.trans (hbk.mono HB6.out.size)⟩

set_option maxRecDepth 100000 in
theorem lifted_FnTreUp (os : Os) (started : os.Started) (H : Type) (enc : TypeId × Value → H) :
    ReturnsInHanded {} Try.checked os 3 .any (Rows.fnTreUpSpec.pre6 enc Try.prog Try.f3 Rows.fnTreUpRow.domain false) (Rows.fnTreUpSpec.post enc Try.prog Try.f3 false true false false) := by
  refine returnsInHanded_of_change (C := Try.checked) own started (by kernel_rfl) Try.func3
    (ChangeSpec.witness6 (enc := enc) (C := Try.checked) false ⟨#[], #[.slice none 0 0, .slice none 0 0], []⟩ 8 (by kernel_rfl) (by kernel_rfl) (by kernel_rfl) (by kernel_rfl)) ?_
  intro W base args ds gs before hval0 hW hcnd _
  have hval : ∀ (j : Nat) t v, Try.f3.params[j]? = some t → args[j]? = some v → Value.okWide Try.prog W .any base t v := hval0
  have hW' := hW
  obtain ⟨p, q, hA0, hV, rfl, hfz, hnd⟩ := hW
  have hA : DataW.TrodAll enc Try.prog W 0 (fun _ => true) true Try.f3.params.toList args.toList ds p := hA0
  rw [Try.params3] at hA hval
  obtain ⟨v0, vs0, d0, ds0, p0, q0, hargs, rfl, rfl, h0, r0⟩ := trodAll_cons hA
  obtain ⟨v1, vs1, d1, ds1, p1, q1, rfl, rfl, rfl, h1, r1⟩ := trodAll_cons r0
  obtain ⟨rfl, rfl, rfl⟩ := trodAll_nil r1
  obtain rfl : args = #[v0, v1] := by cases args; simp_all
  obtain ⟨rfl, rfl⟩ := trodVars_none hV
  obtain ⟨a0, len0, cap0, rfl⟩ := okWide_slice Try.underlying22 (hval 0 22 v0 rfl rfl)
  have k0 := h0
  have lt0 : ∀ x ∈ p0, x.block < W.heap.size := by obtain ⟨m, hm⟩ := k0; exact DataW.trod_lt m _ _ _ hm
  obtain ⟨z0, w0⟩ : ∃ zs, IsRow .u8 W a0 len0 cap0 zs := by
    obtain ⟨fuel, hf⟩ := h0
    rcases open_ints Try.underlying22 Try.underlying5 (by kernel_rfl) hf with ⟨hcs, _⟩ | ⟨x, l, c, zs, hcs, _, hl, hm, hz, _, hcell, hwz⟩
    · simp [Value.cells] at hcs
      obtain ⟨rfl, rfl, rfl⟩ := hcs
      exact ⟨[], .inl ⟨rfl, rfl, rfl, rfl⟩⟩
    · simp [Value.cells] at hcs
      obtain ⟨rfl, rfl, rfl⟩ := hcs
      exact ⟨zs, .inr ⟨_, rfl, hl, hm, by simpa using hz, hcell, hwz⟩⟩
  obtain ⟨a1, len1, cap1, rfl⟩ := okWide_slice Try.underlying22 (hval 1 22 v1 rfl rfl)
  have k1 := h1
  have lt1 : ∀ x ∈ p1, x.block < W.heap.size := by obtain ⟨m, hm⟩ := k1; exact DataW.trod_lt m _ _ _ hm
  obtain ⟨z1, w1⟩ : ∃ zs, IsRow .u8 W a1 len1 cap1 zs := by
    obtain ⟨fuel, hf⟩ := h1
    rcases open_ints Try.underlying22 Try.underlying5 (by kernel_rfl) hf with ⟨hcs, _⟩ | ⟨x, l, c, zs, hcs, _, hl, hm, hz, _, hcell, hwz⟩
    · simp [Value.cells] at hcs
      obtain ⟨rfl, rfl, rfl⟩ := hcs
      exact ⟨[], .inl ⟨rfl, rfl, rfl, rfl⟩⟩
    · simp [Value.cells] at hcs
      obtain ⟨rfl, rfl, rfl⟩ := hcs
      exact ⟨zs, .inr ⟨_, rfl, hl, hm, by simpa using hz, hcell, hwz⟩⟩
  clear hA0 hval0
  refine (walk_FnTreUp a0 len0 cap0 z0 a1 len1 cap1 z1 W w0 w1).mono fun e W' ⟨he, bel⟩ => ?_
  subst he
  exact ⟨_, rfl, _, _, _, [], _, [], hW', trodAll_mk1 (shut_bool Try.underlying4 _), (trodAll_cons_mk (Below.trod laidOut (by kernel_rfl) (of_decide_eq_true (by kernel_rfl)) k0 bel lt0) (trodAll_cons_mk (Below.trod laidOut (by kernel_rfl) (of_decide_eq_true (by kernel_rfl)) k1 bel lt1) trodAll_mk0)), rfl, bel.frame _, fun h => by cases h⟩

theorem fnTreUp_holds : Rows.FnTreUpSaid :=
  OpenClaim.holds_of_wide 3 Try.f3 rfl rfl rfl rfl rfl rfl rfl ⟨rfl, rfl, rfl, rfl, rfl⟩ rfl rfl rfl rfl rfl (by kernel_rfl) Try.func3 (by kernel_rfl)
    (of_decide_eq_true (by kernel_rfl)) (by unfold Func.isWrapper; first | (rw [if_pos (by decide +kernel)]; kernel_rfl) | (rw [if_neg (by decide +kernel)]; exact ⟨rfl, rfl⟩))
    (fun os started H enc _ => lifted_FnTreUp os started H enc)

#print axioms fnTreUp_holds
end Go.Proofs.Ytenjkhabcpfnaaa
