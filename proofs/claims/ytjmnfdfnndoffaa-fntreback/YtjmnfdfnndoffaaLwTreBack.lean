/-
  Proved: at every two codes the law FnTreBack returns true (TreClear answers as the specification's; it takes back what TreSet did there, it is the same done twice, and two of them are the same in either order), and nothing that was there is written. No condition.
-/
import Derived.Test.YtjmnfdfnndoffaaFnTreBackB1
import Derived.Test.YtjmnfdfnndoffaaFnTreBackB5
import Derived.Test.YtjmnfdfnndoffaaFnTreBackB6
import Derived.Test.YtjmnfdfnndoffaaFnTreBackB9
namespace Go.Proofs.Ytjmnfdfnndoffaa
open Go.ChangeShapes Go.WideShapes Go.ChangeAt Go.RowKit
open Go.ChangeMaps (open_string shut_string)
set_option linter.unusedVariables false

/-- A tree in a variable. -/
structure TV (b : Nat) (v : Value) (xs : List ByteArray) (w : World) : Prop where
  box : Boxed w b 25 v
  row : SRow w v xs
theorem TV.below {b : Nat} {v : Value} {xs : List ByteArray} {w w' : World} (h : TV b v xs w) (hb : Below w.heap.size w w') : TV b v xs w' := ⟨box_below h.box hb, h.row.below hb⟩
theorem TV.drew {b : Nat} {v : Value} {xs : List ByteArray} {w : World} (h : TV b v xs w) : TV b v xs w.drew := h.below (Below.refl _ _).drew
theorem TV.new {v : Value} {xs : List ByteArray} {w : World} (h : SRow w v xs) : TV w.heap.size v xs (w.alloc (.cells #[v] 25)) := ⟨Boxed.new w _ v, h.below (below_new w _)⟩

theorem clr_small {xs : List ByteArray} {p : Int} {M : Nat} (h : ∀ x ∈ xs, x.size ≤ M) : ∀ x ∈ clrRes xs p, x.size ≤ M := by
  unfold clrRes
  split
  · exact clear_small h _
  · intro x hx; simp at hx
theorem set_small (xs : List ByteArray) (p : Int) (s : ByteArray) : ∀ x ∈ setRes xs p s, x.size ≤ maxLen := by
  by_cases hy : (treOk xs = true ∧ 0 ≤ p ∧ p ≤ 7) ∧ maySet s = true
  · obtain ⟨k, rfl⟩ : ∃ k : Nat, p = (k : Int) := ⟨p.toNat, by omega⟩
    rw [setRes_yes hy.1.1 (by omega) hy.2]
    intro x hx
    exact Nat.le_trans (treOk_small (treOk_set hy.1.1 (by omega) hy.2) x hx) (by unfold maxLen; omega)
  · rw [setRes_no hy]; intro x hx; simp at hx
theorem keys_op (v : Value) (w : World) : (Instr.field 25 (.agg #[v]) 0).run Try.prog w = .ok v w := by kernel_rfl
theorem clr_back {xs : List ByteArray} {p : Int} {s : ByteArray} (h : setRes xs p s ≠ []) : clrRes (setRes xs p s) p = clrRes xs p := by
  by_cases hy : (treOk xs = true ∧ 0 ≤ p ∧ p ≤ 7) ∧ maySet s = true
  · obtain ⟨k, rfl⟩ : ∃ k : Nat, p = (k : Int) := ⟨p.toNat, by omega⟩
    rw [setRes_yes hy.1.1 (by omega) hy.2, clrRes_yes (treOk_set hy.1.1 (by omega) hy.2) (by omega), clrRes_yes hy.1.1 (by omega)]
    exact wipe_fill _ _ _
  · exact absurd (setRes_no hy) h
theorem clr_twice (xs : List ByteArray) (p : Int) (h : clrRes xs p ≠ []) : clrRes (clrRes xs p) p = clrRes xs p := by
  by_cases hy : treOk xs = true ∧ 0 ≤ p ∧ p ≤ 7
  · obtain ⟨k, rfl⟩ : ∃ k : Nat, p = (k : Int) := ⟨p.toNat, by omega⟩
    rw [clrRes_yes hy.1 (by omega), clrRes_yes (treOk_clear hy.1) (by omega)]
    exact wipe_twice _ _
  · exact absurd (clrRes_no hy) h
theorem clr_swap (xs : List ByteArray) (p q : Int) (h : clrRes xs p ≠ []) (hq : 0 ≤ q ∧ q ≤ 7) : clrRes (clrRes xs p) q = clrRes (clrRes xs q) p := by
  by_cases hy : treOk xs = true ∧ 0 ≤ p ∧ p ≤ 7
  · obtain ⟨k, rfl⟩ : ∃ k : Nat, p = (k : Int) := ⟨p.toNat, by omega⟩
    obtain ⟨l, rfl⟩ : ∃ k : Nat, q = (k : Int) := ⟨q.toNat, by omega⟩
    rw [clrRes_yes hy.1 (by omega), clrRes_yes (treOk_clear hy.1) (by omega), clrRes_yes hy.1 (by omega), clrRes_yes (treOk_clear hy.1) (by omega)]
    exact wipe_swap _ _ _
  · exact absurd (clrRes_no hy) h

set_option maxRecDepth 100000 in
set_option maxHeartbeats 8000000 in
theorem walk_FnTreBack (a0 : Option Addr) (len0 cap0 : Nat) (z0 : List Int) (a1 : Option Addr) (len1 cap1 : Nat) (z1 : List Int) (w : World) (w0 : IsRow .u8 w a0 len0 cap0 z0) (w1 : IsRow .u8 w a1 len1 cap1 z1) :
    Calls Try.prog 5 #[.slice a0 len0 cap0, .slice a1 len1 cap1] w fun e w' => e = .returned (.bool true) ∧ Below w.heap.size w w' := by
  have hR := hide w0
  have hS := hide w1
  clear w0 w1
  by_cases h : (1048576 : Int) < (len0 : Int)
  · go_enter Try.func5, Try.ntmps5
    go_wp2_with fail
    go_ret
    exact ⟨rfl, Below.refl _ _⟩
  have h2 : decide ((1048576 : Int) < (len0 : Int)) = false := by simpa using h
  clear h
  by_cases h : (1048576 : Int) < (len1 : Int)
  · go_enter Try.func5, Try.ntmps5
    go_wp2_with fail
    go_ret
    exact ⟨rfl, Below.refl _ _⟩
  have h3 : decide ((1048576 : Int) < (len1 : Int)) = false := by simpa using h
  clear h
  go_enter Try.func5, Try.ntmps5
  go_wp2_with fail
  refine (DrawTreSet_any a0 len0 cap0 z0 _ (unhide hR)).mono ?_
  rintro e w1 ⟨v, xs, a, s, rfl, hG, ha1, ha2, hsz, hb1⟩
  obtain ⟨ao, kp, rfl, _, _, _⟩ := hG.row.1.form
  have HM := hide hG.max
  have T1 := hide (TV.new hG.row.1)
  have HB1 := hide (hb1.trans ((below_new w1 (.cells #[.slice ao xs.length kp] 25)).mono hb1.size))
  have hS1 := hide (IsRow.belowR (unhide hS) HB1.out)
  clear hG hb1 hR hS h2
  go_wp2_with fail
  refine (DrawTreClear_any a1 len1 cap1 z1 _ (unhide hS1)).mono ?_
  rintro e w2 ⟨v2, ys, c, rfl, hG2, hc1, hc2, hb2⟩
  obtain ⟨ao2, kp2, rfl, _, _, _⟩ := hG2.row.1.form
  have T2 := hide ((unhide T1).below (hb2.trans ((below_new w2 (.cells #[.slice ao2 ys.length kp2] 25)).mono hb2.size)))
  have HB2 := hide (HB1.out.trans ((hb2.trans ((below_new w2 (.cells #[.slice ao2 ys.length kp2] 25)).mono hb2.size)).mono HB1.out.size))
  clear hG2 hb2 hS1 h3 HB1 T1
  have l1 := (unhide T2).box.cell
  go_wp2_with fail
  refine (iTreClear_any _ xs a _ (unhide T2).row (unhide HM)).mono ?_
  rintro e w3 ⟨x, rfl, ho3, hb3⟩
  obtain ⟨L, hL⟩ : ∃ L, clrRes xs a = L := ⟨_, rfl⟩
  have hML := hide (clr_small (p := a) (unhide HM))
  have hH1 := clr_twice xs a
  have hH2 := clr_back (xs := xs) (p := a) (s := s)
  have hH3 := clr_swap xs a c
  rw [hL] at ho3 hML hH1 hH2 hH3
  have HL := hide hL
  have HH := hide (And.intro hH1 (And.intro hH2 hH3))
  clear hH1 hH2 hH3 hL
  obtain ⟨ao3, kp3, rfl, _, _, _⟩ := ho3.srow.form
  have X3 := hide (TV.new ho3.srow)
  have hb3' := hb3.trans ((below_new w3 (.cells #[.slice ao3 L.length kp3] 25)).mono hb3.size)
  have T3 := hide ((unhide T2).below hb3')
  have HB3 := hide (HB2.out.trans (hb3'.mono HB2.out.size))
  clear hb3 hb3' ho3 HB2 T2 l1
  go_wp2_with fail
  have T3d := hide (unhide T3).drew
  have X3d := hide (unhide X3).drew
  have HB3d := hide HB3.out.drew
  refine wp_region_later (by kernel_rfl) ?_
  refine later_take (i := 0) (d := 34) (v := ?_) (by kernel_rfl) (by kernel_rfl) (by kernel_rfl) (by kernel_rfl) (fun _ _ _ h => h) (fun oi hoi => ?_) ?_
  rotate_left
  · simp at hoi
    subst hoi
    refine ⟨by rfl, fun w' hw' => ?_⟩
    go_simp
    all_goals rfl
  try simp only [Act.put, List.setIfInBounds_toArray, List.set_cons_zero, List.set_cons_succ]
  refine later_take (i := 1) (d := 35) (v := ?_) (by kernel_rfl) (by kernel_rfl) (by kernel_rfl) (by kernel_rfl) (fun _ _ _ h => h) (fun oi hoi => ?_) ?_
  rotate_left
  · simp at hoi
    subst hoi
    refine ⟨by rfl, fun w' hw' => ?_⟩
    have hx := (box_below (unhide X3d).box hw').cell
    go_simp
    all_goals rfl
  try simp only [Act.put, List.setIfInBounds_toArray, List.set_cons_zero, List.set_cons_succ]
  refine later_take (i := 2) (d := 36) (v := ?_) (by kernel_rfl) (by kernel_rfl) (by kernel_rfl) (by kernel_rfl) (fun _ _ _ h => h) (fun oi hoi => ?_) ?_
  rotate_left
  · simp at hoi
    subst hoi
    refine ⟨by rfl, fun w' hw' => ?_⟩
    have hx := (box_below (unhide T3d).box hw').cell
    go_simp
    all_goals rfl
  try simp only [Act.put, List.setIfInBounds_toArray, List.set_cons_zero, List.set_cons_succ]
  refine later_take (i := 3) (d := 37) (v := ?_) (by kernel_rfl) (by kernel_rfl) (by kernel_rfl) (by kernel_rfl) (fun _ _ _ h => h) (fun oi hoi => ?_) ?_
  rotate_left
  · simp at hoi
    subst hoi
    refine ⟨by rfl, fun w' hw' => ?_⟩
    go_simp
    all_goals rfl
  try simp only [Act.put, List.setIfInBounds_toArray, List.set_cons_zero, List.set_cons_succ]
  refine later_one (i := 4) (by kernel_rfl) (fun oi K hoi hK => ?_)
  simp at hoi
  subst hoi
  refine ⟨by rfl, ?_⟩
  go_simp
  refine (sTreClear_any _ xs a _ (unhide T3d).row (unhide HM)).mono ?_
  rw [HL.out]
  rintro e w4 ⟨u4, rfl, ho4, hb4⟩
  go_simp
  refine hK.out _ _ hb4 ?_
  clear hK
  have U4 := hide ho4.srow
  clear ho4
  have T4 := hide ((unhide T3d).below hb4)
  have X4 := hide ((unhide X3d).below hb4)
  have HB4 := hide (HB3d.out.trans (hb4.mono HB3d.out.size))
  clear hb4 HB3d T3d X3d
  try simp only [Act.put, List.setIfInBounds_toArray, List.set_cons_zero, List.set_cons_succ]
  refine later_take (i := 5) (d := 39) (v := ?_) (by kernel_rfl) (by kernel_rfl) (by kernel_rfl) (by kernel_rfl) (fun _ _ _ h => h) (fun oi hoi => ?_) ?_
  rotate_left
  · simp at hoi
    subst hoi
    refine ⟨by rfl, fun w' hw' => ?_⟩
    have hx := keys_op
    go_simp
    all_goals rfl
  try simp only [Act.put, List.setIfInBounds_toArray, List.set_cons_zero, List.set_cons_succ]
  refine later_one (i := 6) (by kernel_rfl) (fun oi K hoi hK => ?_)
  simp at hoi
  subst hoi
  refine ⟨by rfl, ?_⟩
  go_simp
  refine (keTexts_any _ u4 L L _ (unhide X4).row (unhide U4)).mono ?_
  rw [show decide (L = L) = true by simp]
  rintro e w5 ⟨rfl, hb5⟩
  go_simp
  refine hK.out _ _ hb5 ?_
  clear hK
  have T5 := hide ((unhide T4).below hb5)
  have X5 := hide ((unhide X4).below hb5)
  have HB5 := hide (HB4.out.trans (hb5.mono HB4.out.size))
  clear U4
  clear hb5 HB4 T4 X4
  try simp only [Act.put, List.setIfInBounds_toArray, List.set_cons_zero, List.set_cons_succ]
  refine later_take (i := 7) (d := 41) (v := ?_) (by kernel_rfl) (by kernel_rfl) (by kernel_rfl) (by kernel_rfl) (fun _ _ _ h => h) (fun oi hoi => ?_) ?_
  rotate_left
  · simp at hoi
    subst hoi
    refine ⟨by rfl, fun w' hw' => ?_⟩
    go_simp
    all_goals rfl
  try simp only [Act.put, List.setIfInBounds_toArray, List.set_cons_zero, List.set_cons_succ]
  refine later_done (by kernel_rfl) ?_ _
  clear T3 X3 HB3
  have l1 := (unhide X5).box.cell
  by_cases hL0 : L.length = 0
  · have hz : ((L.length : Int) == 0) = true := by rw [hL0]; rfl
    go_wp2_with fail
    refine (keOk_any _).mono ?_
    rintro e wk ⟨rfl, hbk⟩
    go_wp2_with fail
    go_ret
    exact ⟨rfl, HB5.out.trans (hbk.mono HB5.out.size)⟩
  have hz : ((L.length : Int) == 0) = false := by rw [beq_eq_false_iff_ne]; omega
  have hLn : Hid (L ≠ []) := fun e => hL0 (by rw [e]; rfl)
  clear hL0
  by_cases hc3 : c < 0
  · clear ha1 ha2 hc1 hc2
    go_wp2_with fail
    refine (keOk_any _).mono ?_
    rintro e wk ⟨rfl, hbk⟩
    go_wp2_with fail
    go_ret
    exact ⟨rfl, HB5.out.trans (hbk.mono HB5.out.size)⟩
  have hc4 : decide (c < 0) = false := by simpa using hc3
  by_cases hc5 : 8 ≤ c
  · clear ha1 ha2 hc1 hc2 hc3
    go_wp2_with fail
    refine (keOk_any _).mono ?_
    rintro e wk ⟨rfl, hbk⟩
    go_wp2_with fail
    go_ret
    exact ⟨rfl, HB5.out.trans (hbk.mono HB5.out.size)⟩
  have hc6 : decide (8 ≤ c) = false := by simpa using hc5
  have HC : Hid (0 ≤ c ∧ c ≤ 7) := ⟨by omega, by omega⟩
  clear hc3 hc5 ha1 ha2 hc1 hc2
  have l2 := (unhide T5).box.cell
  go_wp2_with fail
  refine (iTreSet_any _ xs a s _ (unhide T5).row (unhide HM) (by unfold maxLen; omega)).mono ?_
  rintro e w6 ⟨y, rfl, ho6, hb6⟩
  have HY := hide (set_small xs a s)
  obtain ⟨H1, H2, H3⟩ := unhide HH
  obtain ⟨Y, hY⟩ : ∃ Y, setRes xs a s = Y := ⟨_, rfl⟩
  rw [hY] at ho6 HY H2
  have G1 := hide (H1 hLn.out)
  have G2 := hide H2
  have G3 := hide (H3 hLn.out HC.out)
  clear H1 H2 H3 HH hY hz hc4 hc6
  obtain ⟨ao6, kp6, rfl, _, _, _⟩ := ho6.srow.form
  have Y6 := hide (TV.new ho6.srow)
  have hb6' := hb6.trans ((below_new w6 (.cells #[.slice ao6 Y.length kp6] 25)).mono hb6.size)
  have T6 := hide ((unhide T5).below hb6')
  have X6 := hide ((unhide X5).below hb6')
  have HB6 := hide (HB5.out.trans (hb6'.mono HB5.out.size))
  clear hb6 hb6' ho6 HB5 T5 X5 l1 l2
  by_cases hY0 : Y.length = 0
  · have hy0 : decide (0 < Y.length) = false := decide_eq_false (by omega)
    have hy : decide ((0 : Int) < (Y.length : Int)) = false := decide_eq_false (by omega)
    clear hY0
    go_wp2_with fail
    have T6d := hide (unhide T6).drew
    have X6d := hide (unhide X6).drew
    have Y6d := hide (unhide Y6).drew
    have HB6d := hide HB6.out.drew
    clear T6 X6 HB6 Y6
    refine wp_region_later (by kernel_rfl) ?_
    refine later_take (i := 0) (d := 59) (v := ?_) (by kernel_rfl) (by kernel_rfl) (by kernel_rfl) (by kernel_rfl) (fun _ _ _ h => h) (fun oi hoi => ?_) ?_
    rotate_left
    · simp at hoi
      subst hoi
      refine ⟨by rfl, fun w' hw' => ?_⟩
      go_simp
      all_goals rfl
    try simp only [Act.put, List.setIfInBounds_toArray, List.set_cons_zero, List.set_cons_succ]
    refine later_take (i := 1) (d := 60) (v := ?_) (by kernel_rfl) (by kernel_rfl) (by kernel_rfl) (by kernel_rfl) (fun _ _ _ h => h) (fun oi hoi => ?_) ?_
    rotate_left
    · simp at hoi
      subst hoi
      refine ⟨by rfl, fun w' hw' => ?_⟩
      have hx := (box_below (unhide Y6d).box hw').cell
      go_simp
      all_goals rfl
    try simp only [Act.put, List.setIfInBounds_toArray, List.set_cons_zero, List.set_cons_succ]
    refine later_take (i := 2) (d := 61) (v := ?_) (by kernel_rfl) (by kernel_rfl) (by kernel_rfl) (by kernel_rfl) (fun _ _ _ h => h) (fun oi hoi => ?_) ?_
    rotate_left
    · simp at hoi
      subst hoi
      refine ⟨by rfl, fun w' hw' => ?_⟩
      go_simp
      all_goals rfl
    try simp only [Act.put, List.setIfInBounds_toArray, List.set_cons_zero, List.set_cons_succ]
    refine later_take (i := 3) (d := 62) (v := ?_) (by kernel_rfl) (by kernel_rfl) (by kernel_rfl) (by kernel_rfl) (fun _ _ _ h => h) (fun oi hoi => ?_) ?_
    rotate_left
    · simp at hoi
      subst hoi
      refine ⟨by rfl, fun w' hw' => ?_⟩
      go_simp
      all_goals rfl
    try simp only [Act.put, List.setIfInBounds_toArray, List.set_cons_zero, List.set_cons_succ]
    refine later_take (i := 4) (d := 63) (v := ?_) (by kernel_rfl) (by kernel_rfl) (by kernel_rfl) (by kernel_rfl) (fun _ _ _ h => h) (fun oi hoi => ?_) ?_
    rotate_left
    · simp at hoi
      subst hoi
      refine ⟨by rfl, fun w' hw' => ?_⟩
      go_simp
      all_goals rfl
    try simp only [Act.put, List.setIfInBounds_toArray, List.set_cons_zero, List.set_cons_succ]
    refine later_skip (i := 5) (d := 64) (by kernel_rfl) (by kernel_rfl) (by kernel_rfl) (by kernel_rfl) (fun _ _ _ h => h) (by rfl) ?_
    try simp only [Act.put, List.setIfInBounds_toArray, List.set_cons_zero, List.set_cons_succ]
    refine later_skip (i := 6) (d := 65) (by kernel_rfl) (by kernel_rfl) (by kernel_rfl) (by kernel_rfl) (fun _ _ _ h => h) (by rfl) ?_
    try simp only [Act.put, List.setIfInBounds_toArray, List.set_cons_zero, List.set_cons_succ]
    refine later_skip (i := 7) (d := 66) (by kernel_rfl) (by kernel_rfl) (by kernel_rfl) (by kernel_rfl) (fun _ _ _ h => h) (by rfl) ?_
    try simp only [Act.put, List.setIfInBounds_toArray, List.set_cons_zero, List.set_cons_succ]
    refine later_skip (i := 8) (d := 67) (by kernel_rfl) (by kernel_rfl) (by kernel_rfl) (by kernel_rfl) (fun _ _ _ h => h) (by rfl) ?_
    try simp only [Act.put, List.setIfInBounds_toArray, List.set_cons_zero, List.set_cons_succ]
    refine later_skip (i := 9) (d := 68) (by kernel_rfl) (by kernel_rfl) (by kernel_rfl) (by kernel_rfl) (fun _ _ _ h => h) (by rfl) ?_
    try simp only [Act.put, List.setIfInBounds_toArray, List.set_cons_zero, List.set_cons_succ]
    refine later_skip (i := 10) (d := 69) (by kernel_rfl) (by kernel_rfl) (by kernel_rfl) (by kernel_rfl) (fun _ _ _ h => h) (by rfl) ?_
    try simp only [Act.put, List.setIfInBounds_toArray, List.set_cons_zero, List.set_cons_succ]
    refine later_skip (i := 11) (d := 70) (by kernel_rfl) (by kernel_rfl) (by kernel_rfl) (by kernel_rfl) (fun _ _ _ h => h) (by rfl) ?_
    try simp only [Act.put, List.setIfInBounds_toArray, List.set_cons_zero, List.set_cons_succ]
    refine later_skip (i := 12) (d := 71) (by kernel_rfl) (by kernel_rfl) (by kernel_rfl) (by kernel_rfl) (fun _ _ _ h => h) (by rfl) ?_
    try simp only [Act.put, List.setIfInBounds_toArray, List.set_cons_zero, List.set_cons_succ]
    refine later_take (i := 13) (d := 72) (v := ?_) (by kernel_rfl) (by kernel_rfl) (by kernel_rfl) (by kernel_rfl) (fun _ _ _ h => h) (fun oi hoi => ?_) ?_
    rotate_left
    · simp at hoi
      subst hoi
      refine ⟨by rfl, fun w' hw' => ?_⟩
      go_simp
      all_goals rfl
    try simp only [Act.put, List.setIfInBounds_toArray, List.set_cons_zero, List.set_cons_succ]
    refine later_done (by kernel_rfl) ?_ _
    go_wp2_with fail
    have T6e := hide (unhide T6d).drew
    have X6e := hide (unhide X6d).drew
    have HB6e := hide HB6d.out.drew
    clear T6d X6d HB6d
    refine wp_region_later (by kernel_rfl) ?_
    refine later_take (i := 0) (d := 73) (v := ?_) (by kernel_rfl) (by kernel_rfl) (by kernel_rfl) (by kernel_rfl) (fun _ _ _ h => h) (fun oi hoi => ?_) ?_
    rotate_left
    · simp at hoi
      subst hoi
      refine ⟨by rfl, fun w' hw' => ?_⟩
      have hx := (box_below (unhide X6e).box hw').cell
      go_simp
      all_goals rfl
    try simp only [Act.put, List.setIfInBounds_toArray, List.set_cons_zero, List.set_cons_succ]
    refine later_take (i := 1) (d := 74) (v := ?_) (by kernel_rfl) (by kernel_rfl) (by kernel_rfl) (by kernel_rfl) (fun _ _ _ h => h) (fun oi hoi => ?_) ?_
    rotate_left
    · simp at hoi
      subst hoi
      refine ⟨by rfl, fun w' hw' => ?_⟩
      go_simp
      all_goals rfl
    try simp only [Act.put, List.setIfInBounds_toArray, List.set_cons_zero, List.set_cons_succ]
    refine later_take (i := 4) (d := 77) (v := ?_) (by kernel_rfl) (by kernel_rfl) (by kernel_rfl) (by kernel_rfl) (fun _ _ _ h => h) (fun oi hoi => ?_) ?_
    rotate_left
    · simp at hoi
      subst hoi
      refine ⟨by rfl, fun w' hw' => ?_⟩
      go_simp
      all_goals rfl
    try simp only [Act.put, List.setIfInBounds_toArray, List.set_cons_zero, List.set_cons_succ]
    refine later_take (i := 5) (d := 78) (v := ?_) (by kernel_rfl) (by kernel_rfl) (by kernel_rfl) (by kernel_rfl) (fun _ _ _ h => h) (fun oi hoi => ?_) ?_
    rotate_left
    · simp at hoi
      subst hoi
      refine ⟨by rfl, fun w' hw' => ?_⟩
      have hx := (box_below (unhide X6e).box hw').cell
      go_simp
      all_goals rfl
    try simp only [Act.put, List.setIfInBounds_toArray, List.set_cons_zero, List.set_cons_succ]
    refine later_one (i := 2) (by kernel_rfl) (fun oi K hoi hK => ?_)
    simp at hoi
    subst hoi
    refine ⟨by rfl, ?_⟩
    go_simp
    refine (iTreClear_any _ L a _ (unhide X6e).row (unhide hML)).mono ?_
    rw [G1.out]
    rintro e wA ⟨uA, rfl, hoA, hbA⟩
    go_simp
    refine hK.out _ _ hbA ?_
    clear hK
    have UA := hide hoA.srow
    clear hoA
    have TA := hide ((unhide T6e).below hbA)
    have XA := hide ((unhide X6e).below hbA)
    have HBA := hide (HB6e.out.trans (hbA.mono HB6e.out.size))
    clear hbA HB6e T6e X6e
    try simp only [Act.put, List.setIfInBounds_toArray, List.set_cons_zero, List.set_cons_succ]
    refine later_take (i := 3) (d := 76) (v := ?_) (by kernel_rfl) (by kernel_rfl) (by kernel_rfl) (by kernel_rfl) (fun _ _ _ h => h) (fun oi hoi => ?_) ?_
    rotate_left
    · simp at hoi
      subst hoi
      refine ⟨by rfl, fun w' hw' => ?_⟩
      have hx := keys_op
      go_simp
      all_goals rfl
    try simp only [Act.put, List.setIfInBounds_toArray, List.set_cons_zero, List.set_cons_succ]
    refine later_one (i := 6) (by kernel_rfl) (fun oi K hoi hK => ?_)
    simp at hoi
    subst hoi
    refine ⟨by rfl, ?_⟩
    go_simp
    refine (keTexts_any uA _ L L _ (unhide UA) (unhide XA).row).mono ?_
    rw [show decide (L = L) = true by simp]
    rintro e wB ⟨rfl, hbB⟩
    go_simp
    refine hK.out _ _ hbB ?_
    clear hK
    have TB := hide ((unhide TA).below hbB)
    have XB := hide ((unhide XA).below hbB)
    have HBB := hide (HBA.out.trans (hbB.mono HBA.out.size))
    clear UA
    clear hbB HBA TA XA
    try simp only [Act.put, List.setIfInBounds_toArray, List.set_cons_zero, List.set_cons_succ]
    refine later_take (i := 7) (d := 80) (v := ?_) (by kernel_rfl) (by kernel_rfl) (by kernel_rfl) (by kernel_rfl) (fun _ _ _ h => h) (fun oi hoi => ?_) ?_
    rotate_left
    · simp at hoi
      subst hoi
      refine ⟨by rfl, fun w' hw' => ?_⟩
      go_simp
      all_goals rfl
    try simp only [Act.put, List.setIfInBounds_toArray, List.set_cons_zero, List.set_cons_succ]
    refine later_take (i := 8) (d := 81) (v := ?_) (by kernel_rfl) (by kernel_rfl) (by kernel_rfl) (by kernel_rfl) (fun _ _ _ h => h) (fun oi hoi => ?_) ?_
    rotate_left
    · simp at hoi
      subst hoi
      refine ⟨by rfl, fun w' hw' => ?_⟩
      have hx := (box_below (unhide XB).box hw').cell
      go_simp
      all_goals rfl
    try simp only [Act.put, List.setIfInBounds_toArray, List.set_cons_zero, List.set_cons_succ]
    refine later_take (i := 9) (d := 82) (v := ?_) (by kernel_rfl) (by kernel_rfl) (by kernel_rfl) (by kernel_rfl) (fun _ _ _ h => h) (fun oi hoi => ?_) ?_
    rotate_left
    · simp at hoi
      subst hoi
      refine ⟨by rfl, fun w' hw' => ?_⟩
      go_simp
      all_goals rfl
    try simp only [Act.put, List.setIfInBounds_toArray, List.set_cons_zero, List.set_cons_succ]
    refine later_take (i := 12) (d := 85) (v := ?_) (by kernel_rfl) (by kernel_rfl) (by kernel_rfl) (by kernel_rfl) (fun _ _ _ h => h) (fun oi hoi => ?_) ?_
    rotate_left
    · simp at hoi
      subst hoi
      refine ⟨by rfl, fun w' hw' => ?_⟩
      have hx := (box_below (unhide TB).box hw').cell
      go_simp
      all_goals rfl
    try simp only [Act.put, List.setIfInBounds_toArray, List.set_cons_zero, List.set_cons_succ]
    refine later_take (i := 13) (d := 86) (v := ?_) (by kernel_rfl) (by kernel_rfl) (by kernel_rfl) (by kernel_rfl) (fun _ _ _ h => h) (fun oi hoi => ?_) ?_
    rotate_left
    · simp at hoi
      subst hoi
      refine ⟨by rfl, fun w' hw' => ?_⟩
      go_simp
      all_goals rfl
    try simp only [Act.put, List.setIfInBounds_toArray, List.set_cons_zero, List.set_cons_succ]
    refine later_take (i := 15) (d := 88) (v := ?_) (by kernel_rfl) (by kernel_rfl) (by kernel_rfl) (by kernel_rfl) (fun _ _ _ h => h) (fun oi hoi => ?_) ?_
    rotate_left
    · simp at hoi
      subst hoi
      refine ⟨by rfl, fun w' hw' => ?_⟩
      go_simp
      all_goals rfl
    try simp only [Act.put, List.setIfInBounds_toArray, List.set_cons_zero, List.set_cons_succ]
    refine later_one (i := 10) (by kernel_rfl) (fun oi K hoi hK => ?_)
    simp at hoi
    subst hoi
    refine ⟨by rfl, ?_⟩
    go_simp
    refine (iTreClear_any _ L c _ (unhide XB).row (unhide hML)).mono ?_
    rw [G3.out]
    rintro e wC ⟨uC, rfl, hoC, hbC⟩
    go_simp
    refine hK.out _ _ hbC ?_
    clear hK
    have UC := hide hoC.srow
    clear hoC
    have TC := hide ((unhide TB).below hbC)
    have XC := hide ((unhide XB).below hbC)
    have HBC := hide (HBB.out.trans (hbC.mono HBB.out.size))
    clear hbC HBB TB XB
    try simp only [Act.put, List.setIfInBounds_toArray, List.set_cons_zero, List.set_cons_succ]
    refine later_take (i := 11) (d := 84) (v := ?_) (by kernel_rfl) (by kernel_rfl) (by kernel_rfl) (by kernel_rfl) (fun _ _ _ h => h) (fun oi hoi => ?_) ?_
    rotate_left
    · simp at hoi
      subst hoi
      refine ⟨by rfl, fun w' hw' => ?_⟩
      have hx := keys_op
      go_simp
      all_goals rfl
    try simp only [Act.put, List.setIfInBounds_toArray, List.set_cons_zero, List.set_cons_succ]
    refine later_one (i := 14) (by kernel_rfl) (fun oi K hoi hK => ?_)
    simp at hoi
    subst hoi
    refine ⟨by rfl, ?_⟩
    go_simp
    refine (iTreClear_any _ xs c _ (unhide TC).row (unhide HM)).mono ?_
    rintro e wD ⟨uD, rfl, hoD, hbD⟩
    go_simp
    refine hK.out _ _ hbD ?_
    clear hK
    have VD := hide hoD.srow
    have UD := hide ((unhide UC).below hbD)
    clear hoD UC
    have TD := hide ((unhide TC).below hbD)
    have XD := hide ((unhide XC).below hbD)
    have HBD := hide (HBC.out.trans (hbD.mono HBC.out.size))
    clear hbD HBC TC XC
    try simp only [Act.put, List.setIfInBounds_toArray, List.set_cons_zero, List.set_cons_succ]
    refine later_one (i := 16) (by kernel_rfl) (fun oi K hoi hK => ?_)
    simp at hoi
    subst hoi
    refine ⟨by rfl, ?_⟩
    go_simp
    refine (iTreClear_any _ _ a _ (unhide VD) (clr_small (unhide HM))).mono ?_
    rintro e wE ⟨uE, rfl, hoE, hbE⟩
    go_simp
    refine hK.out _ _ hbE ?_
    clear hK
    have VE := hide hoE.srow
    have UE := hide ((unhide UD).below hbE)
    clear hoE UD
    have TE := hide ((unhide TD).below hbE)
    have XE := hide ((unhide XD).below hbE)
    have HBE := hide (HBD.out.trans (hbE.mono HBD.out.size))
    clear hbE HBD TD XD
    try simp only [Act.put, List.setIfInBounds_toArray, List.set_cons_zero, List.set_cons_succ]
    refine later_take (i := 17) (d := 90) (v := ?_) (by kernel_rfl) (by kernel_rfl) (by kernel_rfl) (by kernel_rfl) (fun _ _ _ h => h) (fun oi hoi => ?_) ?_
    rotate_left
    · simp at hoi
      subst hoi
      refine ⟨by rfl, fun w' hw' => ?_⟩
      have hx := keys_op
      go_simp
      all_goals rfl
    try simp only [Act.put, List.setIfInBounds_toArray, List.set_cons_zero, List.set_cons_succ]
    refine later_one (i := 18) (by kernel_rfl) (fun oi K hoi hK => ?_)
    simp at hoi
    subst hoi
    refine ⟨by rfl, ?_⟩
    go_simp
    refine (keTexts_any uC uE _ _ _ (unhide UE) (unhide VE)).mono ?_
    rw [decide_eq_true (rfl : clrRes (clrRes xs c) a = clrRes (clrRes xs c) a)]
    rintro e wF ⟨rfl, hbF⟩
    go_simp
    refine hK.out _ _ hbF ?_
    clear hK
    have TF := hide ((unhide TE).below hbF)
    have XF := hide ((unhide XE).below hbF)
    have HBF := hide (HBE.out.trans (hbF.mono HBE.out.size))
    clear hbF HBE TE XE
    try simp only [Act.put, List.setIfInBounds_toArray, List.set_cons_zero, List.set_cons_succ]
    refine later_take (i := 19) (d := 92) (v := ?_) (by kernel_rfl) (by kernel_rfl) (by kernel_rfl) (by kernel_rfl) (fun _ _ _ h => h) (fun oi hoi => ?_) ?_
    rotate_left
    · simp at hoi
      subst hoi
      refine ⟨by rfl, fun w' hw' => ?_⟩
      go_simp
      all_goals rfl
    try simp only [Act.put, List.setIfInBounds_toArray, List.set_cons_zero, List.set_cons_succ]
    refine later_take (i := 20) (d := 4) (v := ?_) (by kernel_rfl) (by kernel_rfl) (by kernel_rfl) (by kernel_rfl) (fun _ _ _ h => h) (fun oi hoi => ?_) ?_
    rotate_left
    · simp at hoi
      subst hoi
      refine ⟨by rfl, fun w' hw' => ?_⟩
      go_simp
      all_goals rfl
    try simp only [Act.put, List.setIfInBounds_toArray, List.set_cons_zero, List.set_cons_succ]
    refine later_done (by kernel_rfl) ?_ _
    go_wp2_with fail
    go_ret
    exact ⟨rfl, HBF.out⟩
  · have hy0 : decide (0 < Y.length) = true := decide_eq_true (by omega)
    have hy : decide ((0 : Int) < (Y.length : Int)) = true := decide_eq_true (by omega)
    have hYn : Hid (Y ≠ []) := fun e => hY0 (by rw [e]; rfl)
    clear hY0
    go_wp2_with fail
    have T6d := hide (unhide T6).drew
    have X6d := hide (unhide X6).drew
    have Y6d := hide (unhide Y6).drew
    have HB6d := hide HB6.out.drew
    clear T6 X6 HB6 Y6
    refine wp_region_later (by kernel_rfl) ?_
    refine later_take (i := 0) (d := 59) (v := ?_) (by kernel_rfl) (by kernel_rfl) (by kernel_rfl) (by kernel_rfl) (fun _ _ _ h => h) (fun oi hoi => ?_) ?_
    rotate_left
    · simp at hoi
      subst hoi
      refine ⟨by rfl, fun w' hw' => ?_⟩
      go_simp
      all_goals rfl
    try simp only [Act.put, List.setIfInBounds_toArray, List.set_cons_zero, List.set_cons_succ]
    refine later_take (i := 1) (d := 60) (v := ?_) (by kernel_rfl) (by kernel_rfl) (by kernel_rfl) (by kernel_rfl) (fun _ _ _ h => h) (fun oi hoi => ?_) ?_
    rotate_left
    · simp at hoi
      subst hoi
      refine ⟨by rfl, fun w' hw' => ?_⟩
      have hx := (box_below (unhide Y6d).box hw').cell
      go_simp
      all_goals rfl
    try simp only [Act.put, List.setIfInBounds_toArray, List.set_cons_zero, List.set_cons_succ]
    refine later_take (i := 2) (d := 61) (v := ?_) (by kernel_rfl) (by kernel_rfl) (by kernel_rfl) (by kernel_rfl) (fun _ _ _ h => h) (fun oi hoi => ?_) ?_
    rotate_left
    · simp at hoi
      subst hoi
      refine ⟨by rfl, fun w' hw' => ?_⟩
      go_simp
      all_goals rfl
    try simp only [Act.put, List.setIfInBounds_toArray, List.set_cons_zero, List.set_cons_succ]
    refine later_take (i := 3) (d := 62) (v := ?_) (by kernel_rfl) (by kernel_rfl) (by kernel_rfl) (by kernel_rfl) (fun _ _ _ h => h) (fun oi hoi => ?_) ?_
    rotate_left
    · simp at hoi
      subst hoi
      refine ⟨by rfl, fun w' hw' => ?_⟩
      go_simp
      all_goals rfl
    try simp only [Act.put, List.setIfInBounds_toArray, List.set_cons_zero, List.set_cons_succ]
    refine later_take (i := 4) (d := 63) (v := ?_) (by kernel_rfl) (by kernel_rfl) (by kernel_rfl) (by kernel_rfl) (fun _ _ _ h => h) (fun oi hoi => ?_) ?_
    rotate_left
    · simp at hoi
      subst hoi
      refine ⟨by rfl, fun w' hw' => ?_⟩
      go_simp
      all_goals rfl
    try simp only [Act.put, List.setIfInBounds_toArray, List.set_cons_zero, List.set_cons_succ]
    refine later_take (i := 5) (d := 64) (v := ?_) (by kernel_rfl) (by kernel_rfl) (by kernel_rfl) (by kernel_rfl) (fun _ _ _ h => h) (fun oi hoi => ?_) ?_
    rotate_left
    · simp at hoi
      subst hoi
      refine ⟨by rfl, fun w' hw' => ?_⟩
      have hx := (box_below (unhide Y6d).box hw').cell
      go_simp
      all_goals rfl
    try simp only [Act.put, List.setIfInBounds_toArray, List.set_cons_zero, List.set_cons_succ]
    refine later_take (i := 6) (d := 65) (v := ?_) (by kernel_rfl) (by kernel_rfl) (by kernel_rfl) (by kernel_rfl) (fun _ _ _ h => h) (fun oi hoi => ?_) ?_
    rotate_left
    · simp at hoi
      subst hoi
      refine ⟨by rfl, fun w' hw' => ?_⟩
      go_simp
      all_goals rfl
    try simp only [Act.put, List.setIfInBounds_toArray, List.set_cons_zero, List.set_cons_succ]
    refine later_take (i := 9) (d := 68) (v := ?_) (by kernel_rfl) (by kernel_rfl) (by kernel_rfl) (by kernel_rfl) (fun _ _ _ h => h) (fun oi hoi => ?_) ?_
    rotate_left
    · simp at hoi
      subst hoi
      refine ⟨by rfl, fun w' hw' => ?_⟩
      go_simp
      all_goals rfl
    try simp only [Act.put, List.setIfInBounds_toArray, List.set_cons_zero, List.set_cons_succ]
    refine later_take (i := 10) (d := 69) (v := ?_) (by kernel_rfl) (by kernel_rfl) (by kernel_rfl) (by kernel_rfl) (fun _ _ _ h => h) (fun oi hoi => ?_) ?_
    rotate_left
    · simp at hoi
      subst hoi
      refine ⟨by rfl, fun w' hw' => ?_⟩
      have hx := (box_below (unhide X6d).box hw').cell
      go_simp
      all_goals rfl
    try simp only [Act.put, List.setIfInBounds_toArray, List.set_cons_zero, List.set_cons_succ]
    refine later_one (i := 7) (by kernel_rfl) (fun oi K hoi hK => ?_)
    simp at hoi
    subst hoi
    refine ⟨by rfl, ?_⟩
    go_simp
    refine (iTreClear_any _ Y a _ (unhide Y6d).row (unhide HY)).mono ?_
    rw [G2.out hYn.out]
    rintro e w7 ⟨u7, rfl, ho7, hb7⟩
    go_simp
    refine hK.out _ _ hb7 ?_
    clear hK
    have U7 := hide ho7.srow
    clear ho7
    have T7 := hide ((unhide T6d).below hb7)
    have X7 := hide ((unhide X6d).below hb7)
    have HB7 := hide (HB6d.out.trans (hb7.mono HB6d.out.size))
    clear hb7 HB6d T6d X6d
    try simp only [Act.put, List.setIfInBounds_toArray, List.set_cons_zero, List.set_cons_succ]
    refine later_take (i := 8) (d := 67) (v := ?_) (by kernel_rfl) (by kernel_rfl) (by kernel_rfl) (by kernel_rfl) (fun _ _ _ h => h) (fun oi hoi => ?_) ?_
    rotate_left
    · simp at hoi
      subst hoi
      refine ⟨by rfl, fun w' hw' => ?_⟩
      have hx := keys_op
      go_simp
      all_goals rfl
    try simp only [Act.put, List.setIfInBounds_toArray, List.set_cons_zero, List.set_cons_succ]
    refine later_one (i := 11) (by kernel_rfl) (fun oi K hoi hK => ?_)
    simp at hoi
    subst hoi
    refine ⟨by rfl, ?_⟩
    go_simp
    refine (keTexts_any u7 _ L L _ (unhide U7) (unhide X7).row).mono ?_
    rw [show decide (L = L) = true by simp]
    rintro e w8 ⟨rfl, hb8⟩
    go_simp
    refine hK.out _ _ hb8 ?_
    clear hK
    have T8 := hide ((unhide T7).below hb8)
    have X8 := hide ((unhide X7).below hb8)
    have HB8 := hide (HB7.out.trans (hb8.mono HB7.out.size))
    clear U7
    clear hb8 HB7 T7 X7
    try simp only [Act.put, List.setIfInBounds_toArray, List.set_cons_zero, List.set_cons_succ]
    refine later_take (i := 12) (d := 71) (v := ?_) (by kernel_rfl) (by kernel_rfl) (by kernel_rfl) (by kernel_rfl) (fun _ _ _ h => h) (fun oi hoi => ?_) ?_
    rotate_left
    · simp at hoi
      subst hoi
      refine ⟨by rfl, fun w' hw' => ?_⟩
      go_simp
      all_goals rfl
    try simp only [Act.put, List.setIfInBounds_toArray, List.set_cons_zero, List.set_cons_succ]
    refine later_take (i := 13) (d := 72) (v := ?_) (by kernel_rfl) (by kernel_rfl) (by kernel_rfl) (by kernel_rfl) (fun _ _ _ h => h) (fun oi hoi => ?_) ?_
    rotate_left
    · simp at hoi
      subst hoi
      refine ⟨by rfl, fun w' hw' => ?_⟩
      go_simp
      all_goals rfl
    try simp only [Act.put, List.setIfInBounds_toArray, List.set_cons_zero, List.set_cons_succ]
    refine later_done (by kernel_rfl) ?_ _
    go_wp2_with fail
    have T8e := hide (unhide T8).drew
    have X8e := hide (unhide X8).drew
    have HB8e := hide HB8.out.drew
    clear T8 X8 HB8
    refine wp_region_later (by kernel_rfl) ?_
    refine later_take (i := 0) (d := 73) (v := ?_) (by kernel_rfl) (by kernel_rfl) (by kernel_rfl) (by kernel_rfl) (fun _ _ _ h => h) (fun oi hoi => ?_) ?_
    rotate_left
    · simp at hoi
      subst hoi
      refine ⟨by rfl, fun w' hw' => ?_⟩
      have hx := (box_below (unhide X8e).box hw').cell
      go_simp
      all_goals rfl
    try simp only [Act.put, List.setIfInBounds_toArray, List.set_cons_zero, List.set_cons_succ]
    refine later_take (i := 1) (d := 74) (v := ?_) (by kernel_rfl) (by kernel_rfl) (by kernel_rfl) (by kernel_rfl) (fun _ _ _ h => h) (fun oi hoi => ?_) ?_
    rotate_left
    · simp at hoi
      subst hoi
      refine ⟨by rfl, fun w' hw' => ?_⟩
      go_simp
      all_goals rfl
    try simp only [Act.put, List.setIfInBounds_toArray, List.set_cons_zero, List.set_cons_succ]
    refine later_take (i := 4) (d := 77) (v := ?_) (by kernel_rfl) (by kernel_rfl) (by kernel_rfl) (by kernel_rfl) (fun _ _ _ h => h) (fun oi hoi => ?_) ?_
    rotate_left
    · simp at hoi
      subst hoi
      refine ⟨by rfl, fun w' hw' => ?_⟩
      go_simp
      all_goals rfl
    try simp only [Act.put, List.setIfInBounds_toArray, List.set_cons_zero, List.set_cons_succ]
    refine later_take (i := 5) (d := 78) (v := ?_) (by kernel_rfl) (by kernel_rfl) (by kernel_rfl) (by kernel_rfl) (fun _ _ _ h => h) (fun oi hoi => ?_) ?_
    rotate_left
    · simp at hoi
      subst hoi
      refine ⟨by rfl, fun w' hw' => ?_⟩
      have hx := (box_below (unhide X8e).box hw').cell
      go_simp
      all_goals rfl
    try simp only [Act.put, List.setIfInBounds_toArray, List.set_cons_zero, List.set_cons_succ]
    refine later_one (i := 2) (by kernel_rfl) (fun oi K hoi hK => ?_)
    simp at hoi
    subst hoi
    refine ⟨by rfl, ?_⟩
    go_simp
    refine (iTreClear_any _ L a _ (unhide X8e).row (unhide hML)).mono ?_
    rw [G1.out]
    rintro e wA ⟨uA, rfl, hoA, hbA⟩
    go_simp
    refine hK.out _ _ hbA ?_
    clear hK
    have UA := hide hoA.srow
    clear hoA
    have TA := hide ((unhide T8e).below hbA)
    have XA := hide ((unhide X8e).below hbA)
    have HBA := hide (HB8e.out.trans (hbA.mono HB8e.out.size))
    clear hbA HB8e T8e X8e
    try simp only [Act.put, List.setIfInBounds_toArray, List.set_cons_zero, List.set_cons_succ]
    refine later_take (i := 3) (d := 76) (v := ?_) (by kernel_rfl) (by kernel_rfl) (by kernel_rfl) (by kernel_rfl) (fun _ _ _ h => h) (fun oi hoi => ?_) ?_
    rotate_left
    · simp at hoi
      subst hoi
      refine ⟨by rfl, fun w' hw' => ?_⟩
      have hx := keys_op
      go_simp
      all_goals rfl
    try simp only [Act.put, List.setIfInBounds_toArray, List.set_cons_zero, List.set_cons_succ]
    refine later_one (i := 6) (by kernel_rfl) (fun oi K hoi hK => ?_)
    simp at hoi
    subst hoi
    refine ⟨by rfl, ?_⟩
    go_simp
    refine (keTexts_any uA _ L L _ (unhide UA) (unhide XA).row).mono ?_
    rw [show decide (L = L) = true by simp]
    rintro e wB ⟨rfl, hbB⟩
    go_simp
    refine hK.out _ _ hbB ?_
    clear hK
    have TB := hide ((unhide TA).below hbB)
    have XB := hide ((unhide XA).below hbB)
    have HBB := hide (HBA.out.trans (hbB.mono HBA.out.size))
    clear UA
    clear hbB HBA TA XA
    try simp only [Act.put, List.setIfInBounds_toArray, List.set_cons_zero, List.set_cons_succ]
    refine later_take (i := 7) (d := 80) (v := ?_) (by kernel_rfl) (by kernel_rfl) (by kernel_rfl) (by kernel_rfl) (fun _ _ _ h => h) (fun oi hoi => ?_) ?_
    rotate_left
    · simp at hoi
      subst hoi
      refine ⟨by rfl, fun w' hw' => ?_⟩
      go_simp
      all_goals rfl
    try simp only [Act.put, List.setIfInBounds_toArray, List.set_cons_zero, List.set_cons_succ]
    refine later_take (i := 8) (d := 81) (v := ?_) (by kernel_rfl) (by kernel_rfl) (by kernel_rfl) (by kernel_rfl) (fun _ _ _ h => h) (fun oi hoi => ?_) ?_
    rotate_left
    · simp at hoi
      subst hoi
      refine ⟨by rfl, fun w' hw' => ?_⟩
      have hx := (box_below (unhide XB).box hw').cell
      go_simp
      all_goals rfl
    try simp only [Act.put, List.setIfInBounds_toArray, List.set_cons_zero, List.set_cons_succ]
    refine later_take (i := 9) (d := 82) (v := ?_) (by kernel_rfl) (by kernel_rfl) (by kernel_rfl) (by kernel_rfl) (fun _ _ _ h => h) (fun oi hoi => ?_) ?_
    rotate_left
    · simp at hoi
      subst hoi
      refine ⟨by rfl, fun w' hw' => ?_⟩
      go_simp
      all_goals rfl
    try simp only [Act.put, List.setIfInBounds_toArray, List.set_cons_zero, List.set_cons_succ]
    refine later_take (i := 12) (d := 85) (v := ?_) (by kernel_rfl) (by kernel_rfl) (by kernel_rfl) (by kernel_rfl) (fun _ _ _ h => h) (fun oi hoi => ?_) ?_
    rotate_left
    · simp at hoi
      subst hoi
      refine ⟨by rfl, fun w' hw' => ?_⟩
      have hx := (box_below (unhide TB).box hw').cell
      go_simp
      all_goals rfl
    try simp only [Act.put, List.setIfInBounds_toArray, List.set_cons_zero, List.set_cons_succ]
    refine later_take (i := 13) (d := 86) (v := ?_) (by kernel_rfl) (by kernel_rfl) (by kernel_rfl) (by kernel_rfl) (fun _ _ _ h => h) (fun oi hoi => ?_) ?_
    rotate_left
    · simp at hoi
      subst hoi
      refine ⟨by rfl, fun w' hw' => ?_⟩
      go_simp
      all_goals rfl
    try simp only [Act.put, List.setIfInBounds_toArray, List.set_cons_zero, List.set_cons_succ]
    refine later_take (i := 15) (d := 88) (v := ?_) (by kernel_rfl) (by kernel_rfl) (by kernel_rfl) (by kernel_rfl) (fun _ _ _ h => h) (fun oi hoi => ?_) ?_
    rotate_left
    · simp at hoi
      subst hoi
      refine ⟨by rfl, fun w' hw' => ?_⟩
      go_simp
      all_goals rfl
    try simp only [Act.put, List.setIfInBounds_toArray, List.set_cons_zero, List.set_cons_succ]
    refine later_one (i := 10) (by kernel_rfl) (fun oi K hoi hK => ?_)
    simp at hoi
    subst hoi
    refine ⟨by rfl, ?_⟩
    go_simp
    refine (iTreClear_any _ L c _ (unhide XB).row (unhide hML)).mono ?_
    rw [G3.out]
    rintro e wC ⟨uC, rfl, hoC, hbC⟩
    go_simp
    refine hK.out _ _ hbC ?_
    clear hK
    have UC := hide hoC.srow
    clear hoC
    have TC := hide ((unhide TB).below hbC)
    have XC := hide ((unhide XB).below hbC)
    have HBC := hide (HBB.out.trans (hbC.mono HBB.out.size))
    clear hbC HBB TB XB
    try simp only [Act.put, List.setIfInBounds_toArray, List.set_cons_zero, List.set_cons_succ]
    refine later_take (i := 11) (d := 84) (v := ?_) (by kernel_rfl) (by kernel_rfl) (by kernel_rfl) (by kernel_rfl) (fun _ _ _ h => h) (fun oi hoi => ?_) ?_
    rotate_left
    · simp at hoi
      subst hoi
      refine ⟨by rfl, fun w' hw' => ?_⟩
      have hx := keys_op
      go_simp
      all_goals rfl
    try simp only [Act.put, List.setIfInBounds_toArray, List.set_cons_zero, List.set_cons_succ]
    refine later_one (i := 14) (by kernel_rfl) (fun oi K hoi hK => ?_)
    simp at hoi
    subst hoi
    refine ⟨by rfl, ?_⟩
    go_simp
    refine (iTreClear_any _ xs c _ (unhide TC).row (unhide HM)).mono ?_
    rintro e wD ⟨uD, rfl, hoD, hbD⟩
    go_simp
    refine hK.out _ _ hbD ?_
    clear hK
    have VD := hide hoD.srow
    have UD := hide ((unhide UC).below hbD)
    clear hoD UC
    have TD := hide ((unhide TC).below hbD)
    have XD := hide ((unhide XC).below hbD)
    have HBD := hide (HBC.out.trans (hbD.mono HBC.out.size))
    clear hbD HBC TC XC
    try simp only [Act.put, List.setIfInBounds_toArray, List.set_cons_zero, List.set_cons_succ]
    refine later_one (i := 16) (by kernel_rfl) (fun oi K hoi hK => ?_)
    simp at hoi
    subst hoi
    refine ⟨by rfl, ?_⟩
    go_simp
    refine (iTreClear_any _ _ a _ (unhide VD) (clr_small (unhide HM))).mono ?_
    rintro e wE ⟨uE, rfl, hoE, hbE⟩
    go_simp
    refine hK.out _ _ hbE ?_
    clear hK
    have VE := hide hoE.srow
    have UE := hide ((unhide UD).below hbE)
    clear hoE UD
    have TE := hide ((unhide TD).below hbE)
    have XE := hide ((unhide XD).below hbE)
    have HBE := hide (HBD.out.trans (hbE.mono HBD.out.size))
    clear hbE HBD TD XD
    try simp only [Act.put, List.setIfInBounds_toArray, List.set_cons_zero, List.set_cons_succ]
    refine later_take (i := 17) (d := 90) (v := ?_) (by kernel_rfl) (by kernel_rfl) (by kernel_rfl) (by kernel_rfl) (fun _ _ _ h => h) (fun oi hoi => ?_) ?_
    rotate_left
    · simp at hoi
      subst hoi
      refine ⟨by rfl, fun w' hw' => ?_⟩
      have hx := keys_op
      go_simp
      all_goals rfl
    try simp only [Act.put, List.setIfInBounds_toArray, List.set_cons_zero, List.set_cons_succ]
    refine later_one (i := 18) (by kernel_rfl) (fun oi K hoi hK => ?_)
    simp at hoi
    subst hoi
    refine ⟨by rfl, ?_⟩
    go_simp
    refine (keTexts_any uC uE _ _ _ (unhide UE) (unhide VE)).mono ?_
    rw [decide_eq_true (rfl : clrRes (clrRes xs c) a = clrRes (clrRes xs c) a)]
    rintro e wF ⟨rfl, hbF⟩
    go_simp
    refine hK.out _ _ hbF ?_
    clear hK
    have TF := hide ((unhide TE).below hbF)
    have XF := hide ((unhide XE).below hbF)
    have HBF := hide (HBE.out.trans (hbF.mono HBE.out.size))
    clear hbF HBE TE XE
    try simp only [Act.put, List.setIfInBounds_toArray, List.set_cons_zero, List.set_cons_succ]
    refine later_take (i := 19) (d := 92) (v := ?_) (by kernel_rfl) (by kernel_rfl) (by kernel_rfl) (by kernel_rfl) (fun _ _ _ h => h) (fun oi hoi => ?_) ?_
    rotate_left
    · simp at hoi
      subst hoi
      refine ⟨by rfl, fun w' hw' => ?_⟩
      go_simp
      all_goals rfl
    try simp only [Act.put, List.setIfInBounds_toArray, List.set_cons_zero, List.set_cons_succ]
    refine later_take (i := 20) (d := 4) (v := ?_) (by kernel_rfl) (by kernel_rfl) (by kernel_rfl) (by kernel_rfl) (fun _ _ _ h => h) (fun oi hoi => ?_) ?_
    rotate_left
    · simp at hoi
      subst hoi
      refine ⟨by rfl, fun w' hw' => ?_⟩
      go_simp
      all_goals rfl
    try simp only [Act.put, List.setIfInBounds_toArray, List.set_cons_zero, List.set_cons_succ]
    refine later_done (by kernel_rfl) ?_ _
    go_wp2_with fail
    go_ret
    exact ⟨rfl, HBF.out⟩
#print axioms walk_FnTreBack

set_option maxRecDepth 100000 in
theorem lifted_FnTreBack (os : Os) (started : os.Started) (H : Type) (enc : TypeId × Value → H) :
    ReturnsInHanded {} Try.checked os 5 .any (Rows.fnTreBackSpec.pre6 enc Try.prog Try.f5 Rows.fnTreBackRow.domain false) (Rows.fnTreBackSpec.post enc Try.prog Try.f5 false true false false) := by
  refine returnsInHanded_of_change (C := Try.checked) own started (by kernel_rfl) Try.func5
    (ChangeSpec.witness6 (enc := enc) (C := Try.checked) false ⟨#[], #[.slice none 0 0, .slice none 0 0], []⟩ 8 (by kernel_rfl) (by kernel_rfl) (by kernel_rfl) (by kernel_rfl)) ?_
  intro W base args ds gs before hval0 hW hcnd _
  have hval : ∀ (j : Nat) t v, Try.f5.params[j]? = some t → args[j]? = some v → Value.okWide Try.prog W .any base t v := hval0
  have hW' := hW
  obtain ⟨p, q, hA0, hV, rfl, hfz, hnd⟩ := hW
  have hA : DataW.TrodAll enc Try.prog W 0 (fun _ => true) true Try.f5.params.toList args.toList ds p := hA0
  rw [Try.params5] at hA hval
  obtain ⟨v0, vs0, d0, ds0, p0, q0, hargs, rfl, rfl, h0, r0⟩ := trodAll_cons hA
  obtain ⟨v1, vs1, d1, ds1, p1, q1, rfl, rfl, rfl, h1, r1⟩ := trodAll_cons r0
  obtain ⟨rfl, rfl, rfl⟩ := trodAll_nil r1
  obtain rfl : args = #[v0, v1] := by cases args; simp_all
  obtain ⟨rfl, rfl⟩ := trodVars_none hV
  obtain ⟨a0, len0, cap0, rfl⟩ := okWide_slice Try.underlying22 (hval 0 22 v0 rfl rfl)
  have k0 := h0
  have lt0 : ∀ x ∈ p0, x.block < W.heap.size := by obtain ⟨m, hm⟩ := k0; exact DataW.trod_lt m _ _ _ hm
  obtain ⟨z0, w0⟩ : ∃ zs, IsRow .u8 W a0 len0 cap0 zs := by
    obtain ⟨fuel, hf⟩ := h0
    rcases open_ints Try.underlying22 Try.underlying5 (by kernel_rfl) hf with ⟨hcs, _⟩ | ⟨x, l, c, zs, hcs, _, hl, hm, hz, _, hcell, hwz⟩
    · simp [Value.cells] at hcs
      obtain ⟨rfl, rfl, rfl⟩ := hcs
      exact ⟨[], .inl ⟨rfl, rfl, rfl, rfl⟩⟩
    · simp [Value.cells] at hcs
      obtain ⟨rfl, rfl, rfl⟩ := hcs
      exact ⟨zs, .inr ⟨_, rfl, hl, hm, by simpa using hz, hcell, hwz⟩⟩
  obtain ⟨a1, len1, cap1, rfl⟩ := okWide_slice Try.underlying22 (hval 1 22 v1 rfl rfl)
  have k1 := h1
  have lt1 : ∀ x ∈ p1, x.block < W.heap.size := by obtain ⟨m, hm⟩ := k1; exact DataW.trod_lt m _ _ _ hm
  obtain ⟨z1, w1⟩ : ∃ zs, IsRow .u8 W a1 len1 cap1 zs := by
    obtain ⟨fuel, hf⟩ := h1
    rcases open_ints Try.underlying22 Try.underlying5 (by kernel_rfl) hf with ⟨hcs, _⟩ | ⟨x, l, c, zs, hcs, _, hl, hm, hz, _, hcell, hwz⟩
    · simp [Value.cells] at hcs
      obtain ⟨rfl, rfl, rfl⟩ := hcs
      exact ⟨[], .inl ⟨rfl, rfl, rfl, rfl⟩⟩
    · simp [Value.cells] at hcs
      obtain ⟨rfl, rfl, rfl⟩ := hcs
      exact ⟨zs, .inr ⟨_, rfl, hl, hm, by simpa using hz, hcell, hwz⟩⟩
  clear hA0 hval0
  refine (walk_FnTreBack a0 len0 cap0 z0 a1 len1 cap1 z1 W w0 w1).mono fun e W' ⟨he, bel⟩ => ?_
  subst he
  exact ⟨_, rfl, _, _, _, [], _, [], hW', trodAll_mk1 (shut_bool Try.underlying4 _), (trodAll_cons_mk (Below.trod laidOut (by kernel_rfl) (of_decide_eq_true (by kernel_rfl)) k0 bel lt0) (trodAll_cons_mk (Below.trod laidOut (by kernel_rfl) (of_decide_eq_true (by kernel_rfl)) k1 bel lt1) trodAll_mk0)), rfl, bel.frame _, fun h => by cases h⟩

theorem fnTreBack_holds : Rows.FnTreBackSaid :=
  OpenClaim.holds_of_wide 5 Try.f5 rfl rfl rfl rfl rfl rfl rfl ⟨rfl, rfl, rfl, rfl, rfl⟩ rfl rfl rfl rfl rfl (by kernel_rfl) Try.func5 (by kernel_rfl)
    (of_decide_eq_true (by kernel_rfl)) (by unfold Func.isWrapper; first | (rw [if_pos (by decide +kernel)]; kernel_rfl) | (rw [if_neg (by decide +kernel)]; exact ⟨rfl, rfl⟩))
    (fun os started H enc _ => lifted_FnTreBack os started H enc)

#print axioms fnTreBack_holds
end Go.Proofs.Ytjmnfdfnndoffaa
