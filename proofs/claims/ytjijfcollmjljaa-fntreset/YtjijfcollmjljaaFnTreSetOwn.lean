/-
  Proved: at every two codes the law FnTreSet returns true (behind TreSet one's place has the key of the secret, each place above the key of the next one; all others are as they were; behind TreClear it has none, nor has any above), and nothing that was there is written. No condition.
-/
import Derived.Test.YtjijfcollmjljaaFnTreSetB1
import Derived.Test.YtjijfcollmjljaaFnTreSetB5
import Derived.Test.YtjijfcollmjljaaFnTreSetB6
import Derived.Test.YtjijfcollmjljaaFnTreSetB7
import Derived.Test.YtjijfcollmjljaaFnTreSetB9
namespace Go.Proofs.Ytjijfcollmjljaa
open Go.ChangeShapes Go.WideShapes Go.ChangeAt Go.RowKit
open Go.ChangeMaps (open_string shut_string)
set_option linter.unusedVariables false

theorem row_some {w : World} {ao : Option Addr} {kp : Nat} {xs : List ByteArray} (h : SRow w (.slice ao xs.length kp) xs) (hl : xs.length = 15) : ∃ g, ao = some g := by
  obtain ⟨ax, cx, qx, _, _, qy⟩ := h.form
  obtain ⟨a', ha', _⟩ := qy 0 (by omega)
  simp only [Value.slice.injEq] at qx
  exact ⟨a', by rw [qx.1, ha']⟩
theorem irow_some {w : World} {ao : Option Addr} {kp : Nat} {xs : List Int} (h : IRow w (.slice ao xs.length kp) xs) (hl : xs.length = 4) : ∃ g, ao = some g := by
  obtain ⟨ax, cx, qx, _, _, qy⟩ := h.form
  obtain ⟨a', ha', _⟩ := qy 0 (by omega)
  simp only [Value.slice.injEq] at qx
  exact ⟨a', by rw [qx.1, ha']⟩
theorem clr_small' {xs : List ByteArray} (h : ∀ x ∈ xs, x.size ≤ maxLen) (q : Int) : ∀ x ∈ clrRes xs q, x.size ≤ maxLen := by
  by_cases hy : treOk xs = true ∧ 0 ≤ q ∧ q ≤ 7
  · obtain ⟨k, rfl⟩ : ∃ k : Nat, q = (k : Int) := ⟨q.toNat, by omega⟩
    rw [clrRes_yes hy.1 (by omega)]
    exact clear_small h k
  · rw [clrRes_no hy]; intro x hx; simp at hx

set_option maxRecDepth 100000 in
set_option maxHeartbeats 4000000 in
theorem walk_FnTreSet (a0 : Option Addr) (len0 cap0 : Nat) (z0 : List Int) (a1 : Option Addr) (len1 cap1 : Nat) (z1 : List Int) (w : World) (w0 : IsRow .u8 w a0 len0 cap0 z0) (w1 : IsRow .u8 w a1 len1 cap1 z1) :
    Calls Try.prog 3 #[.slice a0 len0 cap0, .slice a1 len1 cap1] w fun e w' => e = .returned (.bool true) ∧ Below w.heap.size w w' := by
  have hR := hide w0
  have hS := hide w1
  clear w0 w1
  by_cases h : (1048576 : Int) < (len0 : Int)
  · go_enter Try.func3, Try.ntmps3
    go_wp2_with fail
    go_ret
    exact ⟨rfl, Below.refl _ _⟩
  have h2 : decide ((1048576 : Int) < (len0 : Int)) = false := by simpa using h
  clear h
  by_cases h : (1048576 : Int) < (len1 : Int)
  · go_enter Try.func3, Try.ntmps3
    go_wp2_with fail
    go_ret
    exact ⟨rfl, Below.refl _ _⟩
  have h3 : decide ((1048576 : Int) < (len1 : Int)) = false := by simpa using h
  clear h
  obtain ⟨i0, hi, hz0, hz1, hz2⟩ := info_parts info_int2
  have hI := hide (And.intro hi (And.intro hz0 (And.intro hz1 hz2)))
  clear hi hz0 hz1 hz2
  go_enter Try.func3, Try.ntmps3
  go_wp2_with fail
  refine (DrawTreSet_any a0 len0 cap0 z0 _ (unhide hR)).mono ?_
  rintro e w2 ⟨v, xs, p, s, rfl, hG, ha1, ha2, hsz, hb1⟩
  obtain ⟨ao, kp, rfl, _, _, _⟩ := hG.row.1.form
  have HM := hide hG.max
  have T := hide (TV.new hG.row.1)
  have HB := hide (hb1.trans ((below_new w2 (.cells #[.slice ao xs.length kp] 25)).mono hb1.size))
  have hS1 := hide (IsRow.belowR (unhide hS) HB.out)
  have HSZ : Hid (s.size ≤ maxLen) := by show _ ≤ _; unfold maxLen; omega
  clear hG hb1 hR hS h2 ha1 ha2 hsz
  go_wp2_with fail
  refine (DrawTreClear_any a1 len1 cap1 z1 _ (unhide hS1)).mono ?_
  rintro e w3 ⟨v2, us, q, rfl, hG2, hc1, hc2, hb2⟩
  obtain ⟨ao2, kp2, rfl, _, _, _⟩ := hG2.row.1.form
  have HMU := hide hG2.max
  have V := hide (TV.new hG2.row.1)
  have hb := hb2.trans ((below_new w3 (.cells #[.slice ao2 us.length kp2] 25)).mono hb2.size)
  replace T := hide ((unhide T).below hb)
  replace HB := hide (HB.out.trans (hb.mono HB.out.size))
  clear hG2 hb2 hS1 h3 hc1 hc2 hb
  have l1 := (unhide T).box.cell
  go_wp2_with fail
  refine (iTreSet_any _ xs p s _ (unhide T).row (unhide HM) HSZ.out).mono ?_
  obtain ⟨XX, hX⟩ : ∃ X, setRes xs p s = X := ⟨_, rfl⟩
  obtain ⟨CC, hCC⟩ : ∃ C, chainOf (leafOf p) = C := ⟨_, rfl⟩
  obtain ⟨lfCC, hlp⟩ : ∃ l, leafOf p = l := ⟨_, rfl⟩
  have HSS : Hid (XX ≠ [] → SetS xs p s XX CC) := by intro h; rw [← hX] at h ⊢; rw [← hCC]; exact setS_of h
  have HMX : Hid (∀ x ∈ XX, x.size ≤ maxLen) := by rw [← hX]; exact set_small xs p s
  rw [hX]
  rw [hlp] at hCC
  have HX := hide hX
  have HCC := hide hCC
  have HLP := hide hlp
  clear hX hCC hlp
  rintro e w4 ⟨x4, rfl, ho4, hb4⟩
  obtain ⟨ao4, kp4, hx4⟩ := row_form' ho4
  subst hx4
  have X := hide (TV.new ho4.srow)
  have hb := hb4.trans ((below_new w4 (.cells #[.slice ao4 XX.length kp4] 25)).mono hb4.size)
  replace T := hide ((unhide T).below hb)
  replace V := hide ((unhide V).below hb)
  replace HB := hide (HB.out.trans (hb.mono HB.out.size))
  clear hb
  clear hb4 ho4 l1
  have l1 := (unhide V).box.cell
  go_wp2_with fail
  refine (iTreClear_any _ us q _ (unhide V).row (unhide HMU)).mono ?_
  obtain ⟨YY, hY⟩ : ∃ Y, clrRes us q = Y := ⟨_, rfl⟩
  obtain ⟨G, hCG⟩ : ∃ C, chainOf (leafOf q) = C := ⟨_, rfl⟩
  obtain ⟨lfG, hlq⟩ : ∃ l, leafOf q = l := ⟨_, rfl⟩
  have HCS : Hid (YY ≠ [] → ClrS us q YY G) := by intro h; rw [← hY] at h ⊢; rw [← hCG]; exact clrS_of h
  have HMY : Hid (∀ x ∈ YY, x.size ≤ maxLen) := by rw [← hY]; exact clr_small' (unhide HMU) q
  rw [hY]
  rw [hlq] at hCG
  have HY := hide hY
  have HCG := hide hCG
  have HLQ := hide hlq
  clear hY hCG hlq
  rintro e w5 ⟨x5, rfl, ho5, hb5⟩
  obtain ⟨ao5, kp5, hx5⟩ := row_form' ho5
  subst hx5
  have Y := hide (TV.new ho5.srow)
  have hb := hb5.trans ((below_new w5 (.cells #[.slice ao5 YY.length kp5] 25)).mono hb5.size)
  replace T := hide ((unhide T).below hb)
  replace V := hide ((unhide V).below hb)
  replace X := hide ((unhide X).below hb)
  replace HB := hide (HB.out.trans (hb.mono HB.out.size))
  clear hb
  clear hb5 ho5 l1
  go_wp2_with fail
  replace T := hide (unhide T).drew
  replace V := hide (unhide V).drew
  replace X := hide (unhide X).drew
  replace Y := hide (unhide Y).drew
  replace HB := hide HB.out.drew
  refine wp_region_later (by kernel_rfl) ?_
  refine later_take (i := 0) (d := 44) (v := ?_) (by kernel_rfl) (by kernel_rfl) (by kernel_rfl) (by kernel_rfl) (fun _ _ _ h => h) (fun oi hoi => ?_) ?_
  rotate_left
  · simp at hoi
    subst hoi
    refine ⟨by rfl, fun w' hw' => ?_⟩
    go_simp
    all_goals rfl
  try simp only [Act.put, List.setIfInBounds_toArray, List.set_cons_zero, List.set_cons_succ]
  refine later_take (i := 1) (d := 45) (v := ?_) (by kernel_rfl) (by kernel_rfl) (by kernel_rfl) (by kernel_rfl) (fun _ _ _ h => h) (fun oi hoi => ?_) ?_
  rotate_left
  · simp at hoi
    subst hoi
    refine ⟨by rfl, fun w' hw' => ?_⟩
    have hx := (box_below (unhide X).box hw').cell
    go_simp
    all_goals rfl
  try simp only [Act.put, List.setIfInBounds_toArray, List.set_cons_zero, List.set_cons_succ]
  refine later_take (i := 2) (d := 46) (v := ?_) (by kernel_rfl) (by kernel_rfl) (by kernel_rfl) (by kernel_rfl) (fun _ _ _ h => h) (fun oi hoi => ?_) ?_
  rotate_left
  · simp at hoi
    subst hoi
    refine ⟨by rfl, fun w' hw' => ?_⟩
    have hx := (box_below (unhide T).box hw').cell
    go_simp
    all_goals rfl
  try simp only [Act.put, List.setIfInBounds_toArray, List.set_cons_zero, List.set_cons_succ]
  refine later_take (i := 3) (d := 47) (v := ?_) (by kernel_rfl) (by kernel_rfl) (by kernel_rfl) (by kernel_rfl) (fun _ _ _ h => h) (fun oi hoi => ?_) ?_
  rotate_left
  · simp at hoi
    subst hoi
    refine ⟨by rfl, fun w' hw' => ?_⟩
    go_simp
    all_goals rfl
  try simp only [Act.put, List.setIfInBounds_toArray, List.set_cons_zero, List.set_cons_succ]
  refine later_take (i := 4) (d := 48) (v := ?_) (by kernel_rfl) (by kernel_rfl) (by kernel_rfl) (by kernel_rfl) (fun _ _ _ h => h) (fun oi hoi => ?_) ?_
  rotate_left
  · simp at hoi
    subst hoi
    refine ⟨by rfl, fun w' hw' => ?_⟩
    go_simp
    all_goals rfl
  try simp only [Act.put, List.setIfInBounds_toArray, List.set_cons_zero, List.set_cons_succ]
  refine later_one (i := 5) (by kernel_rfl) (fun oi K hoi hK => ?_)
  simp at hoi
  subst hoi
  refine ⟨by rfl, ?_⟩
  go_simp
  refine (sTreSet_any _ xs p s _ (unhide T).row (unhide HM) HSZ.out).mono ?_
  rw [HX.out]
  rintro e w6 ⟨u6, rfl, ho6, hb⟩
  go_simp
  refine hK.out _ _ hb ?_
  clear hK
  have R6 := hide ho6.srow
  clear ho6
  replace T := hide ((unhide T).below hb)
  replace V := hide ((unhide V).below hb)
  replace X := hide ((unhide X).below hb)
  replace Y := hide ((unhide Y).below hb)
  replace HB := hide (HB.out.trans (hb.mono HB.out.size))
  clear hb
  try simp only [Act.put, List.setIfInBounds_toArray, List.set_cons_zero, List.set_cons_succ]
  refine later_take (i := 6) (d := 50) (v := ?_) (by kernel_rfl) (by kernel_rfl) (by kernel_rfl) (by kernel_rfl) (fun _ _ _ h => h) (fun oi hoi => ?_) ?_
  rotate_left
  · simp at hoi
    subst hoi
    refine ⟨by rfl, fun w' hw' => ?_⟩
    have hf := keys_op u6 w'
    go_simp
    all_goals rfl
  try simp only [Act.put, List.setIfInBounds_toArray, List.set_cons_zero, List.set_cons_succ]
  refine later_one (i := 7) (by kernel_rfl) (fun oi K hoi hK => ?_)
  simp at hoi
  subst hoi
  refine ⟨by rfl, ?_⟩
  go_simp
  refine (keTexts_any _ u6 XX XX _ (unhide X).row (unhide R6)).mono ?_
  rw [show decide (XX = XX) = true by simp]
  rintro e w7 ⟨rfl, hb⟩
  go_simp
  refine hK.out _ _ hb ?_
  clear hK
  clear R6
  replace T := hide ((unhide T).below hb)
  replace V := hide ((unhide V).below hb)
  replace X := hide ((unhide X).below hb)
  replace Y := hide ((unhide Y).below hb)
  replace HB := hide (HB.out.trans (hb.mono HB.out.size))
  clear hb
  try simp only [Act.put, List.setIfInBounds_toArray, List.set_cons_zero, List.set_cons_succ]
  refine later_take (i := 8) (d := 52) (v := ?_) (by kernel_rfl) (by kernel_rfl) (by kernel_rfl) (by kernel_rfl) (fun _ _ _ h => h) (fun oi hoi => ?_) ?_
  rotate_left
  · simp at hoi
    subst hoi
    refine ⟨by rfl, fun w' hw' => ?_⟩
    go_simp
    all_goals rfl
  try simp only [Act.put, List.setIfInBounds_toArray, List.set_cons_zero, List.set_cons_succ]
  refine later_take (i := 9) (d := 53) (v := ?_) (by kernel_rfl) (by kernel_rfl) (by kernel_rfl) (by kernel_rfl) (fun _ _ _ h => h) (fun oi hoi => ?_) ?_
  rotate_left
  · simp at hoi
    subst hoi
    refine ⟨by rfl, fun w' hw' => ?_⟩
    go_simp
    all_goals rfl
  try simp only [Act.put, List.setIfInBounds_toArray, List.set_cons_zero, List.set_cons_succ]
  refine later_take (i := 10) (d := 54) (v := ?_) (by kernel_rfl) (by kernel_rfl) (by kernel_rfl) (by kernel_rfl) (fun _ _ _ h => h) (fun oi hoi => ?_) ?_
  rotate_left
  · simp at hoi
    subst hoi
    refine ⟨by rfl, fun w' hw' => ?_⟩
    go_simp
    all_goals rfl
  try simp only [Act.put, List.setIfInBounds_toArray, List.set_cons_zero, List.set_cons_succ]
  refine later_take (i := 11) (d := 55) (v := ?_) (by kernel_rfl) (by kernel_rfl) (by kernel_rfl) (by kernel_rfl) (fun _ _ _ h => h) (fun oi hoi => ?_) ?_
  rotate_left
  · simp at hoi
    subst hoi
    refine ⟨by rfl, fun w' hw' => ?_⟩
    have hx := (box_below (unhide Y).box hw').cell
    go_simp
    all_goals rfl
  try simp only [Act.put, List.setIfInBounds_toArray, List.set_cons_zero, List.set_cons_succ]
  refine later_take (i := 12) (d := 56) (v := ?_) (by kernel_rfl) (by kernel_rfl) (by kernel_rfl) (by kernel_rfl) (fun _ _ _ h => h) (fun oi hoi => ?_) ?_
  rotate_left
  · simp at hoi
    subst hoi
    refine ⟨by rfl, fun w' hw' => ?_⟩
    have hx := (box_below (unhide V).box hw').cell
    go_simp
    all_goals rfl
  try simp only [Act.put, List.setIfInBounds_toArray, List.set_cons_zero, List.set_cons_succ]
  refine later_take (i := 13) (d := 57) (v := ?_) (by kernel_rfl) (by kernel_rfl) (by kernel_rfl) (by kernel_rfl) (fun _ _ _ h => h) (fun oi hoi => ?_) ?_
  rotate_left
  · simp at hoi
    subst hoi
    refine ⟨by rfl, fun w' hw' => ?_⟩
    go_simp
    all_goals rfl
  try simp only [Act.put, List.setIfInBounds_toArray, List.set_cons_zero, List.set_cons_succ]
  refine later_one (i := 14) (by kernel_rfl) (fun oi K hoi hK => ?_)
  simp at hoi
  subst hoi
  refine ⟨by rfl, ?_⟩
  go_simp
  refine (sTreClear_any _ us q _ (unhide V).row (unhide HMU)).mono ?_
  rw [HY.out]
  rintro e w8 ⟨u8, rfl, ho8, hb⟩
  go_simp
  refine hK.out _ _ hb ?_
  clear hK
  have R8 := hide ho8.srow
  clear ho8
  replace T := hide ((unhide T).below hb)
  replace V := hide ((unhide V).below hb)
  replace X := hide ((unhide X).below hb)
  replace Y := hide ((unhide Y).below hb)
  replace HB := hide (HB.out.trans (hb.mono HB.out.size))
  clear hb
  try simp only [Act.put, List.setIfInBounds_toArray, List.set_cons_zero, List.set_cons_succ]
  refine later_take (i := 15) (d := 59) (v := ?_) (by kernel_rfl) (by kernel_rfl) (by kernel_rfl) (by kernel_rfl) (fun _ _ _ h => h) (fun oi hoi => ?_) ?_
  rotate_left
  · simp at hoi
    subst hoi
    refine ⟨by rfl, fun w' hw' => ?_⟩
    have hf := keys_op u8 w'
    go_simp
    all_goals rfl
  try simp only [Act.put, List.setIfInBounds_toArray, List.set_cons_zero, List.set_cons_succ]
  refine later_one (i := 16) (by kernel_rfl) (fun oi K hoi hK => ?_)
  simp at hoi
  subst hoi
  refine ⟨by rfl, ?_⟩
  go_simp
  refine (keTexts_any _ u8 YY YY _ (unhide Y).row (unhide R8)).mono ?_
  rw [show decide (YY = YY) = true by simp]
  rintro e w9 ⟨rfl, hb⟩
  go_simp
  refine hK.out _ _ hb ?_
  clear hK
  clear R8
  replace T := hide ((unhide T).below hb)
  replace V := hide ((unhide V).below hb)
  replace X := hide ((unhide X).below hb)
  replace Y := hide ((unhide Y).below hb)
  replace HB := hide (HB.out.trans (hb.mono HB.out.size))
  clear hb
  try simp only [Act.put, List.setIfInBounds_toArray, List.set_cons_zero, List.set_cons_succ]
  refine later_take (i := 17) (d := 61) (v := ?_) (by kernel_rfl) (by kernel_rfl) (by kernel_rfl) (by kernel_rfl) (fun _ _ _ h => h) (fun oi hoi => ?_) ?_
  rotate_left
  · simp at hoi
    subst hoi
    refine ⟨by rfl, fun w' hw' => ?_⟩
    go_simp
    all_goals rfl
  try simp only [Act.put, List.setIfInBounds_toArray, List.set_cons_zero, List.set_cons_succ]
  refine later_take (i := 18) (d := 62) (v := ?_) (by kernel_rfl) (by kernel_rfl) (by kernel_rfl) (by kernel_rfl) (fun _ _ _ h => h) (fun oi hoi => ?_) ?_
  rotate_left
  · simp at hoi
    subst hoi
    refine ⟨by rfl, fun w' hw' => ?_⟩
    go_simp
    all_goals rfl
  try simp only [Act.put, List.setIfInBounds_toArray, List.set_cons_zero, List.set_cons_succ]
  refine later_done (by kernel_rfl) ?_ _
  have HTF : Hid (xs.length = 15 → ∃ g, ao = some g) := fun hl => row_some (unhide T).row hl
  have HXF : Hid (XX.length = 15 → ∃ g, ao4 = some g) := fun hl => row_some (unhide X).row hl
  have lY := (unhide Y).box.cell
  by_cases hY0 : YY.length = 0
  · rw [hY0] at lY ⊢
    have hd : decide ((0 : Int) < 0) = false := rfl
    clear V Y HCS
    have lX := (unhide X).box.cell
    by_cases hX0 : XX.length = 0
    · rw [hX0]
      have hX1 : ((0 : Int) == 0) = true := rfl
      rw [hX0] at lX
      go_wp2_with fail
      refine (keOk_any _).mono ?_
      rintro e we ⟨rfl, hb⟩
      have HBe := hide (HB.out.trans (hb.mono HB.out.size))
      clear hb
      go_wp2_with fail
      go_ret
      exact ⟨rfl, unhide HBe⟩
    · have hS := HSS.out (fun e => hX0 (by rw [e]; rfl))
      have HXL : Hid (XX.length = 15) := hS.lenX
      have HTL : Hid (xs.length = 15) := hS.len
      have HCL : Hid (CC.length = 4) := hS.lenC
      have HAT := hide hS.at_
      have HOUT := hide hS.out
      have HOKX := hide hS.ok
      have HINX := hide hS.inn
      have hs3 := hS.s300
      have HLC : Hid (0 ≤ lfCC ∧ lfCC ≤ 14) := by have := hS.leaf; rw [HLP.out] at this; exact this
      have XAC : Hid (CC = lfCC :: upOf lfCC) := by
        show _ = _
        rw [← HCC.out]
        unfold chainOf
        rw [if_pos HLC.out]
      clear hS
      obtain ⟨gX, rfl⟩ := HXF.out HXL.out
      obtain ⟨gT, rfl⟩ := HTF.out HTL.out
      rw [HXL.out] at lX X ⊢
      rw [HTL.out] at T ⊢
      clear hX0
      go_wp2_with fail
      refine (iTreLeaf_any p _).mono ?_
      rw [HLP.out]
      rintro e wp ⟨rfl, rfl⟩
      go_wp2_with fail
      refine (iTreLeaf_any p _).mono ?_
      rw [HLP.out]
      rintro e wz ⟨rfl, rfl⟩
      go_wp2_with fail
      refine (iTreUp_any lfCC _).mono ?_
      rintro e wcx ⟨vcx, rfl, hox, hbx⟩
      have Nx := hide hox.irow.news
      have hrx : Hid (wcx.ownsRow wp.heap.size 3 1 (.slice (some ⟨wp.heap.size, 0, none⟩) 1 1) 1 [.int .i64 lfCC]) := own_below' (World.ownsRow_lit (base := wp.heap.size) (e := 3) (size := 1) wp #[.int .i64 lfCC] 1 (Nat.le_refl _) (by unfold maxLen; omega) rfl) hbx
      have hcx : Hid (Below wp.heap.size wp wcx) := ((Below.refl _ _).alloc (Nat.le_refl _) _).trans (hbx.mono (by simp))
      have hlu : (upOf lfCC).length ≤ 4 := by rw [upOf_chain]; exact chain_len _
      clear hox hbx
      go_wp2_with (at_builtin; refine wpList_append_row _ rfl _ _ 33 rfl wp.heap.size 3 i0 (.int .i64 0) 1 8 Try.underlying33 (unhide hI).1 (unhide hI).2.1 (unhide hI).2.2.1 (unhide hI).2.2.2 rfl (by decide) _ _ _ rfl (unhide hrx) _ _ _ rfl (unhide Nx) (ints_one _) (by unfold maxLen; omega) (by omega) (unhide hcx).size ?_)
      intro vx wx hownx hgx
      have hox2 : OwnI wp.heap.size wx vx CC := by
        rw [XAC.out]
        unfold OwnI
        rw [List.length_cons, Nat.add_comm]
        exact hownx
      have hb : Below wp.heap.size wp wx := (unhide hcx).grown hgx (unhide hcx).size (fun k hk => by cases hk; exact Nat.le_refl _)
      obtain ⟨ox, cx, hvx⟩ := row_form' hox2
      subst hvx
      have R := hide hox2.irow
      replace T := hide ((unhide T).below hb)
      replace X := hide ((unhide X).below hb)
      replace HB := hide (HB.out.trans (hb.mono HB.out.size))
      clear hb
      clear hownx hgx hox2 hrx hcx Nx hlu
      obtain ⟨go, rfl⟩ := irow_some (unhide R) HCL.out
      rw [HCL.out] at R ⊢
      clear lX
      go_wp2_with fail
      go_loopw [15, 16] (fun sv i wr => ∃ j : Nat, j ≤ 4 ∧ i = .int .i64 (j : Int) ∧ sv = .string (nextN s j) ∧ Hid (TV w2.heap.size (.slice (some gT) 15 kp) xs wr) ∧ Hid (TV w4.heap.size (.slice (some gX) 15 kp4) XX wr) ∧ Hid (IRow wr (.slice (some go) 4 cx) CC) ∧ Hid (Below w.heap.size w wr)) (fun _ i _ => 4 - (intOf i).toNat)
      case atStart => exact ⟨0, by omega, rfl, rfl, T, X, R, HB⟩
      case round =>
        clear T X R HB
        obtain ⟨j, hj, rfl, rfl, T, X, R, HB⟩ := hrel
        by_cases hlt : j < 4
        · have hlt2 : (j : Int) < 4 := by omega
          have i3 : IntKind.i64.wrap ((j : Int) + 1) = (j : Int) + 1 := by simp [IntKind.wrap, IntKind.bits, IntKind.signed]; omega
          obtain ⟨pq, hpq, hcj, hxk⟩ := HAT.out j hlt
          have hpq2 : ((pq : Nat) : Int) < 15 := by omega
          have HCJ := hide hcj
          have HXK := hide hxk
          have hns := nextN_size s hs3 j
          have HSC : Hid ((nextN s j).size ≤ maxLen) := by show _ ≤ _; unfold maxLen; omega
          have HNX : Hid (nextN s (j + 1) = mkNext (nextN s j)) := rfl
          clear hcj hxk
          generalize nextN s j = sc at *
          replace T := hide (unhide T).drew
          replace X := hide (unhide X).drew
          replace R := hide (unhide R).drew
          replace HB := hide HB.out.drew
          go_wp2_with fail
          refine wp_region_later (by kernel_rfl) ?_
          refine later_take (i := 0) (d := 127) (v := ?_) (by kernel_rfl) (by kernel_rfl) (by kernel_rfl) (by kernel_rfl) (fun _ _ _ h => h) (fun oi hoi => ?_) ?_
          rotate_left
          · simp at hoi
            subst hoi
            refine ⟨by rfl, fun w' hw' => ?_⟩
            go_simp
            all_goals rfl
          try simp only [Act.put, List.setIfInBounds_toArray, List.set_cons_zero, List.set_cons_succ]
          refine later_take (i := 1) (d := 128) (v := ?_) (by kernel_rfl) (by kernel_rfl) (by kernel_rfl) (by kernel_rfl) (fun _ _ _ h => h) (fun oi hoi => ?_) ?_
          rotate_left
          · simp at hoi
            subst hoi
            refine ⟨by rfl, fun w' hw' => ?_⟩
            have hx := (box_below (unhide X).box hw').cell
            go_simp
            all_goals rfl
          try simp only [Act.put, List.setIfInBounds_toArray, List.set_cons_zero, List.set_cons_succ]
          refine later_take (i := 2) (d := 129) (v := ?_) (by kernel_rfl) (by kernel_rfl) (by kernel_rfl) (by kernel_rfl) (fun _ _ _ h => h) (fun oi hoi => ?_) ?_
          rotate_left
          · simp at hoi
            subst hoi
            refine ⟨by rfl, fun w' hw' => ?_⟩
            go_simp
            all_goals rfl
          try simp only [Act.put, List.setIfInBounds_toArray, List.set_cons_zero, List.set_cons_succ]
          refine later_take (i := 3) (d := 130) (v := ?_) (by kernel_rfl) (by kernel_rfl) (by kernel_rfl) (by kernel_rfl) (fun _ _ _ h => h) (fun oi hoi => ?_) ?_
          rotate_left
          · simp at hoi
            subst hoi
            refine ⟨by rfl, fun w' hw' => ?_⟩
            go_simp
            all_goals rfl
          try simp only [Act.put, List.setIfInBounds_toArray, List.set_cons_zero, List.set_cons_succ]
          refine later_take (i := 4) (d := 131) (v := ?_) (by kernel_rfl) (by kernel_rfl) (by kernel_rfl) (by kernel_rfl) (fun _ _ _ h => h) (fun oi hoi => ?_) ?_
          rotate_left
          · simp at hoi
            subst hoi
            refine ⟨by rfl, fun w' hw' => ?_⟩
            go_simp
            all_goals rfl
          try simp only [Act.put, List.setIfInBounds_toArray, List.set_cons_zero, List.set_cons_succ]
          refine later_take (i := 5) (d := 132) (v := ?_) (by kernel_rfl) (by kernel_rfl) (by kernel_rfl) (by kernel_rfl) (fun _ _ _ h => h) (fun oi hoi => ?_) ?_
          rotate_left
          · simp at hoi
            subst hoi
            refine ⟨by rfl, fun w' hw' => ?_⟩
            have hx := ((unhide R).below hw').form
            obtain ⟨ax, cx', qx, _, _, qy⟩ := hx
            rw [HCL.out] at qx qy
            simp only [Value.slice.injEq] at qx
            obtain ⟨rfl, _, rfl⟩ := qx
            obtain ⟨a', ha', hcx⟩ := qy j (by omega)
            cases ha'
            rw [HCJ.out] at hcx
            go_simp
            all_goals rfl
          try simp only [Act.put, List.setIfInBounds_toArray, List.set_cons_zero, List.set_cons_succ]
          refine later_take (i := 6) (d := 133) (v := ?_) (by kernel_rfl) (by kernel_rfl) (by kernel_rfl) (by kernel_rfl) (fun _ _ _ h => h) (fun oi hoi => ?_) ?_
          rotate_left
          · simp at hoi
            subst hoi
            refine ⟨by rfl, fun w' hw' => ?_⟩
            go_simp
            all_goals rfl
          try simp only [Act.put, List.setIfInBounds_toArray, List.set_cons_zero, List.set_cons_succ]
          refine later_take (i := 7) (d := 134) (v := ?_) (by kernel_rfl) (by kernel_rfl) (by kernel_rfl) (by kernel_rfl) (fun _ _ _ h => h) (fun oi hoi => ?_) ?_
          rotate_left
          · simp at hoi
            subst hoi
            refine ⟨by rfl, fun w' hw' => ?_⟩
            have hx := ((unhide X).row.below hw').form
            obtain ⟨ax, cx, qx, _, _, qy⟩ := hx
            rw [HXL.out] at qx qy
            simp only [Value.slice.injEq] at qx
            obtain ⟨rfl, _, rfl⟩ := qx
            obtain ⟨a', ha', hcx⟩ := qy pq (by omega)
            cases ha'
            rw [HXK.out] at hcx
            go_simp
            all_goals rfl
          try simp only [Act.put, List.setIfInBounds_toArray, List.set_cons_zero, List.set_cons_succ]
          refine later_take (i := 8) (d := 135) (v := ?_) (by kernel_rfl) (by kernel_rfl) (by kernel_rfl) (by kernel_rfl) (fun _ _ _ h => h) (fun oi hoi => ?_) ?_
          rotate_left
          · simp at hoi
            subst hoi
            refine ⟨by rfl, fun w' hw' => ?_⟩
            go_simp
            all_goals rfl
          try simp only [Act.put, List.setIfInBounds_toArray, List.set_cons_zero, List.set_cons_succ]
          refine later_one (i := 9) (by kernel_rfl) (fun oi K hoi hK => ?_)
          simp at hoi
          subst hoi
          refine ⟨by rfl, ?_⟩
          go_simp
          refine (iMakKey_any sc _ HSC.out).mono ?_
          rintro e wk ⟨rfl, hb⟩
          go_simp
          refine hK.out _ _ hb ?_
          clear hK
          replace T := hide ((unhide T).below hb)
          replace X := hide ((unhide X).below hb)
          replace R := hide ((unhide R).below hb)
          replace HB := hide (HB.out.trans (hb.mono HB.out.size))
          clear hb
          try simp only [Act.put, List.setIfInBounds_toArray, List.set_cons_zero, List.set_cons_succ]
          refine later_take (i := 10) (d := 137) (v := ?_) (by kernel_rfl) (by kernel_rfl) (by kernel_rfl) (by kernel_rfl) (fun _ _ _ h => h) (fun oi hoi => ?_) ?_
          rotate_left
          · simp at hoi
            subst hoi
            refine ⟨by rfl, fun w' hw' => ?_⟩
            go_simp
            all_goals rfl
          try simp only [Act.put, List.setIfInBounds_toArray, List.set_cons_zero, List.set_cons_succ]
          refine later_done (by kernel_rfl) ?_ _
          go_wp2_with fail
          refine (iMakNext_any sc _ HSC.out).mono ?_
          rintro e wm ⟨rfl, hb⟩
          replace T := hide ((unhide T).below hb)
          replace X := hide ((unhide X).below hb)
          replace R := hide ((unhide R).below hb)
          replace HB := hide (HB.out.trans (hb.mono HB.out.size))
          clear hb
          go_wp2_with fail
          go_roundw
          case rel => exact ⟨j + 1, by omega, by simp, by rw [HNX.out], T, X, R, HB⟩
          case measure => simp [intOf]; omega
        · have hlt2 : decide ((j : Int) < 4) = false := by simp; omega
          obtain rfl : j = 4 := by omega
          generalize nextN s 4 = sc
          rw [show ((4 : Nat) : Int) = 4 from rfl] at *
          go_wp2_with fail
          try rw [show ((4 : Nat) : Int) = 4 from rfl]
          generalize wr = wL2 at *
          go_loopw [17] (fun i wr => ∃ k : Nat, k ≤ 15 ∧ i = .int .i64 (k : Int) ∧ Hid (TV w2.heap.size (.slice (some gT) 15 kp) xs wr) ∧ Hid (TV w4.heap.size (.slice (some gX) 15 kp4) XX wr) ∧ Hid (IRow wr (.slice (some go) 4 cx) CC) ∧ Hid (Below w.heap.size w wr)) (fun i _ => 15 - (intOf i).toNat)
          case atStart => exact ⟨0, by omega, rfl, T, X, R, HB⟩
          case round =>
            clear T X R HB
            obtain ⟨k, hk, rfl, T, X, R, HB⟩ := hrel
            by_cases hlk : k < 15
            · have hlk2 : (k : Int) < 15 := by omega
              have i3 : IntKind.i64.wrap ((k : Int) + 1) = (k : Int) + 1 := by simp [IntKind.wrap, IntKind.bits, IntKind.signed]; omega
              replace T := hide (unhide T).drew
              replace X := hide (unhide X).drew
              replace R := hide (unhide R).drew
              replace HB := hide HB.out.drew
              cases hkn : decide ((k : Int) ∈ CC) with
              | true =>
                have HKN := hide hkn
                clear hkn
                go_wp2_with fail
                refine wp_region_later (by kernel_rfl) ?_
                refine later_take (i := 0) (d := 144) (v := ?_) (by kernel_rfl) (by kernel_rfl) (by kernel_rfl) (by kernel_rfl) (fun _ _ _ h => h) (fun oi hoi => ?_) ?_
                rotate_left
                · simp at hoi
                  subst hoi
                  refine ⟨by rfl, fun w' hw' => ?_⟩
                  go_simp
                  all_goals rfl
                try simp only [Act.put, List.setIfInBounds_toArray, List.set_cons_zero, List.set_cons_succ]
                refine later_take (i := 1) (d := 145) (v := ?_) (by kernel_rfl) (by kernel_rfl) (by kernel_rfl) (by kernel_rfl) (fun _ _ _ h => h) (fun oi hoi => ?_) ?_
                rotate_left
                · simp at hoi
                  subst hoi
                  refine ⟨by rfl, fun w' hw' => ?_⟩
                  go_simp
                  all_goals rfl
                try simp only [Act.put, List.setIfInBounds_toArray, List.set_cons_zero, List.set_cons_succ]
                refine later_one (i := 2) (by kernel_rfl) (fun oi K hoi hK => ?_)
                simp at hoi
                subst hoi
                refine ⟨by rfl, ?_⟩
                go_simp
                refine (keIn_any _ CC (k : Int) _ (unhide R)).mono ?_
                rw [HKN.out]
                rintro e wk ⟨rfl, rfl⟩
                go_simp
                refine hK.out _ _ (Below.refl _ _) ?_
                clear hK
                try simp only [Act.put, List.setIfInBounds_toArray, List.set_cons_zero, List.set_cons_succ]
                refine later_take (i := 3) (d := 147) (v := ?_) (by kernel_rfl) (by kernel_rfl) (by kernel_rfl) (by kernel_rfl) (fun _ _ _ h => h) (fun oi hoi => ?_) ?_
                rotate_left
                · simp at hoi
                  subst hoi
                  refine ⟨by rfl, fun w' hw' => ?_⟩
                  go_simp
                  all_goals rfl
                try simp only [Act.put, List.setIfInBounds_toArray, List.set_cons_zero, List.set_cons_succ]
                refine later_take (i := 4) (d := 148) (v := ?_) (by kernel_rfl) (by kernel_rfl) (by kernel_rfl) (by kernel_rfl) (fun _ _ _ h => h) (fun oi hoi => ?_) ?_
                rotate_left
                · simp at hoi
                  subst hoi
                  refine ⟨by rfl, fun w' hw' => ?_⟩
                  go_simp
                  all_goals rfl
                try simp only [Act.put, List.setIfInBounds_toArray, List.set_cons_zero, List.set_cons_succ]
                refine later_skip (i := 5) (d := 149) (by kernel_rfl) (by kernel_rfl) (by kernel_rfl) (by kernel_rfl) (fun _ _ _ h => h) (by rfl) ?_
                try simp only [Act.put, List.setIfInBounds_toArray, List.set_cons_zero, List.set_cons_succ]
                refine later_skip (i := 6) (d := 150) (by kernel_rfl) (by kernel_rfl) (by kernel_rfl) (by kernel_rfl) (fun _ _ _ h => h) (by rfl) ?_
                try simp only [Act.put, List.setIfInBounds_toArray, List.set_cons_zero, List.set_cons_succ]
                refine later_skip (i := 7) (d := 151) (by kernel_rfl) (by kernel_rfl) (by kernel_rfl) (by kernel_rfl) (fun _ _ _ h => h) (by rfl) ?_
                try simp only [Act.put, List.setIfInBounds_toArray, List.set_cons_zero, List.set_cons_succ]
                refine later_skip (i := 8) (d := 152) (by kernel_rfl) (by kernel_rfl) (by kernel_rfl) (by kernel_rfl) (fun _ _ _ h => h) (by rfl) ?_
                try simp only [Act.put, List.setIfInBounds_toArray, List.set_cons_zero, List.set_cons_succ]
                refine later_skip (i := 9) (d := 153) (by kernel_rfl) (by kernel_rfl) (by kernel_rfl) (by kernel_rfl) (fun _ _ _ h => h) (by rfl) ?_
                try simp only [Act.put, List.setIfInBounds_toArray, List.set_cons_zero, List.set_cons_succ]
                refine later_skip (i := 10) (d := 154) (by kernel_rfl) (by kernel_rfl) (by kernel_rfl) (by kernel_rfl) (fun _ _ _ h => h) (by rfl) ?_
                try simp only [Act.put, List.setIfInBounds_toArray, List.set_cons_zero, List.set_cons_succ]
                refine later_skip (i := 11) (d := 155) (by kernel_rfl) (by kernel_rfl) (by kernel_rfl) (by kernel_rfl) (fun _ _ _ h => h) (by rfl) ?_
                try simp only [Act.put, List.setIfInBounds_toArray, List.set_cons_zero, List.set_cons_succ]
                refine later_skip (i := 12) (d := 156) (by kernel_rfl) (by kernel_rfl) (by kernel_rfl) (by kernel_rfl) (fun _ _ _ h => h) (by rfl) ?_
                try simp only [Act.put, List.setIfInBounds_toArray, List.set_cons_zero, List.set_cons_succ]
                refine later_skip (i := 13) (d := 157) (by kernel_rfl) (by kernel_rfl) (by kernel_rfl) (by kernel_rfl) (fun _ _ _ h => h) (by rfl) ?_
                try simp only [Act.put, List.setIfInBounds_toArray, List.set_cons_zero, List.set_cons_succ]
                refine later_skip (i := 14) (d := 158) (by kernel_rfl) (by kernel_rfl) (by kernel_rfl) (by kernel_rfl) (fun _ _ _ h => h) (by rfl) ?_
                try simp only [Act.put, List.setIfInBounds_toArray, List.set_cons_zero, List.set_cons_succ]
                refine later_skip (i := 15) (d := 159) (by kernel_rfl) (by kernel_rfl) (by kernel_rfl) (by kernel_rfl) (fun _ _ _ h => h) (by rfl) ?_
                try simp only [Act.put, List.setIfInBounds_toArray, List.set_cons_zero, List.set_cons_succ]
                refine later_take (i := 16) (d := 160) (v := ?_) (by kernel_rfl) (by kernel_rfl) (by kernel_rfl) (by kernel_rfl) (fun _ _ _ h => h) (fun oi hoi => ?_) ?_
                rotate_left
                · simp at hoi
                  subst hoi
                  refine ⟨by rfl, fun w' hw' => ?_⟩
                  go_simp
                  all_goals rfl
                try simp only [Act.put, List.setIfInBounds_toArray, List.set_cons_zero, List.set_cons_succ]
                refine later_done (by kernel_rfl) ?_ _
                go_wp2_with fail
                go_roundw
                case rel => exact ⟨k + 1, by omega, by simp, T, X, R, HB⟩
                case measure => simp [intOf]; omega
              | false =>
                have hxk := HOUT.out k hlk hkn
                have HKN := hide hkn
                clear hkn
                obtain ⟨y, hy⟩ : ∃ y, xs.getD k ByteArray.empty = y := ⟨_, rfl⟩
                rw [hy] at hxk
                have HXK := hide hxk
                have HTK := hide hy
                clear hxk hy
                go_wp2_with fail
                refine wp_region_later (by kernel_rfl) ?_
                refine later_take (i := 0) (d := 144) (v := ?_) (by kernel_rfl) (by kernel_rfl) (by kernel_rfl) (by kernel_rfl) (fun _ _ _ h => h) (fun oi hoi => ?_) ?_
                rotate_left
                · simp at hoi
                  subst hoi
                  refine ⟨by rfl, fun w' hw' => ?_⟩
                  go_simp
                  all_goals rfl
                try simp only [Act.put, List.setIfInBounds_toArray, List.set_cons_zero, List.set_cons_succ]
                refine later_take (i := 1) (d := 145) (v := ?_) (by kernel_rfl) (by kernel_rfl) (by kernel_rfl) (by kernel_rfl) (fun _ _ _ h => h) (fun oi hoi => ?_) ?_
                rotate_left
                · simp at hoi
                  subst hoi
                  refine ⟨by rfl, fun w' hw' => ?_⟩
                  go_simp
                  all_goals rfl
                try simp only [Act.put, List.setIfInBounds_toArray, List.set_cons_zero, List.set_cons_succ]
                refine later_one (i := 2) (by kernel_rfl) (fun oi K hoi hK => ?_)
                simp at hoi
                subst hoi
                refine ⟨by rfl, ?_⟩
                go_simp
                refine (keIn_any _ CC (k : Int) _ (unhide R)).mono ?_
                rw [HKN.out]
                rintro e wk ⟨rfl, rfl⟩
                go_simp
                refine hK.out _ _ (Below.refl _ _) ?_
                clear hK
                try simp only [Act.put, List.setIfInBounds_toArray, List.set_cons_zero, List.set_cons_succ]
                refine later_take (i := 3) (d := 147) (v := ?_) (by kernel_rfl) (by kernel_rfl) (by kernel_rfl) (by kernel_rfl) (fun _ _ _ h => h) (fun oi hoi => ?_) ?_
                rotate_left
                · simp at hoi
                  subst hoi
                  refine ⟨by rfl, fun w' hw' => ?_⟩
                  go_simp
                  all_goals rfl
                try simp only [Act.put, List.setIfInBounds_toArray, List.set_cons_zero, List.set_cons_succ]
                refine later_take (i := 4) (d := 148) (v := ?_) (by kernel_rfl) (by kernel_rfl) (by kernel_rfl) (by kernel_rfl) (fun _ _ _ h => h) (fun oi hoi => ?_) ?_
                rotate_left
                · simp at hoi
                  subst hoi
                  refine ⟨by rfl, fun w' hw' => ?_⟩
                  go_simp
                  all_goals rfl
                try simp only [Act.put, List.setIfInBounds_toArray, List.set_cons_zero, List.set_cons_succ]
                refine later_take (i := 5) (d := 149) (v := ?_) (by kernel_rfl) (by kernel_rfl) (by kernel_rfl) (by kernel_rfl) (fun _ _ _ h => h) (fun oi hoi => ?_) ?_
                rotate_left
                · simp at hoi
                  subst hoi
                  refine ⟨by rfl, fun w' hw' => ?_⟩
                  go_simp
                  all_goals rfl
                try simp only [Act.put, List.setIfInBounds_toArray, List.set_cons_zero, List.set_cons_succ]
                refine later_take (i := 6) (d := 150) (v := ?_) (by kernel_rfl) (by kernel_rfl) (by kernel_rfl) (by kernel_rfl) (fun _ _ _ h => h) (fun oi hoi => ?_) ?_
                rotate_left
                · simp at hoi
                  subst hoi
                  refine ⟨by rfl, fun w' hw' => ?_⟩
                  have hx := (box_below (unhide X).box hw').cell
                  go_simp
                  all_goals rfl
                try simp only [Act.put, List.setIfInBounds_toArray, List.set_cons_zero, List.set_cons_succ]
                refine later_take (i := 7) (d := 151) (v := ?_) (by kernel_rfl) (by kernel_rfl) (by kernel_rfl) (by kernel_rfl) (fun _ _ _ h => h) (fun oi hoi => ?_) ?_
                rotate_left
                · simp at hoi
                  subst hoi
                  refine ⟨by rfl, fun w' hw' => ?_⟩
                  go_simp
                  all_goals rfl
                try simp only [Act.put, List.setIfInBounds_toArray, List.set_cons_zero, List.set_cons_succ]
                refine later_take (i := 8) (d := 152) (v := ?_) (by kernel_rfl) (by kernel_rfl) (by kernel_rfl) (by kernel_rfl) (fun _ _ _ h => h) (fun oi hoi => ?_) ?_
                rotate_left
                · simp at hoi
                  subst hoi
                  refine ⟨by rfl, fun w' hw' => ?_⟩
                  go_simp
                  all_goals rfl
                try simp only [Act.put, List.setIfInBounds_toArray, List.set_cons_zero, List.set_cons_succ]
                refine later_take (i := 9) (d := 153) (v := ?_) (by kernel_rfl) (by kernel_rfl) (by kernel_rfl) (by kernel_rfl) (fun _ _ _ h => h) (fun oi hoi => ?_) ?_
                rotate_left
                · simp at hoi
                  subst hoi
                  refine ⟨by rfl, fun w' hw' => ?_⟩
                  have hx := ((unhide X).row.below hw').form
                  obtain ⟨ax, cx, qx, _, _, qy⟩ := hx
                  rw [HXL.out] at qx qy
                  simp only [Value.slice.injEq] at qx
                  obtain ⟨rfl, _, rfl⟩ := qx
                  obtain ⟨a', ha', hcx⟩ := qy k (by omega)
                  cases ha'
                  rw [HXK.out] at hcx
                  go_simp
                  all_goals rfl
                try simp only [Act.put, List.setIfInBounds_toArray, List.set_cons_zero, List.set_cons_succ]
                refine later_take (i := 10) (d := 154) (v := ?_) (by kernel_rfl) (by kernel_rfl) (by kernel_rfl) (by kernel_rfl) (fun _ _ _ h => h) (fun oi hoi => ?_) ?_
                rotate_left
                · simp at hoi
                  subst hoi
                  refine ⟨by rfl, fun w' hw' => ?_⟩
                  go_simp
                  all_goals rfl
                try simp only [Act.put, List.setIfInBounds_toArray, List.set_cons_zero, List.set_cons_succ]
                refine later_take (i := 11) (d := 155) (v := ?_) (by kernel_rfl) (by kernel_rfl) (by kernel_rfl) (by kernel_rfl) (fun _ _ _ h => h) (fun oi hoi => ?_) ?_
                rotate_left
                · simp at hoi
                  subst hoi
                  refine ⟨by rfl, fun w' hw' => ?_⟩
                  have hx := (box_below (unhide T).box hw').cell
                  go_simp
                  all_goals rfl
                try simp only [Act.put, List.setIfInBounds_toArray, List.set_cons_zero, List.set_cons_succ]
                refine later_take (i := 12) (d := 156) (v := ?_) (by kernel_rfl) (by kernel_rfl) (by kernel_rfl) (by kernel_rfl) (fun _ _ _ h => h) (fun oi hoi => ?_) ?_
                rotate_left
                · simp at hoi
                  subst hoi
                  refine ⟨by rfl, fun w' hw' => ?_⟩
                  go_simp
                  all_goals rfl
                try simp only [Act.put, List.setIfInBounds_toArray, List.set_cons_zero, List.set_cons_succ]
                refine later_take (i := 13) (d := 157) (v := ?_) (by kernel_rfl) (by kernel_rfl) (by kernel_rfl) (by kernel_rfl) (fun _ _ _ h => h) (fun oi hoi => ?_) ?_
                rotate_left
                · simp at hoi
                  subst hoi
                  refine ⟨by rfl, fun w' hw' => ?_⟩
                  go_simp
                  all_goals rfl
                try simp only [Act.put, List.setIfInBounds_toArray, List.set_cons_zero, List.set_cons_succ]
                refine later_take (i := 14) (d := 158) (v := ?_) (by kernel_rfl) (by kernel_rfl) (by kernel_rfl) (by kernel_rfl) (fun _ _ _ h => h) (fun oi hoi => ?_) ?_
                rotate_left
                · simp at hoi
                  subst hoi
                  refine ⟨by rfl, fun w' hw' => ?_⟩
                  have hx := ((unhide T).row.below hw').form
                  obtain ⟨ax, cx, qx, _, _, qy⟩ := hx
                  rw [HTL.out] at qx qy
                  simp only [Value.slice.injEq] at qx
                  obtain ⟨rfl, _, rfl⟩ := qx
                  obtain ⟨a', ha', hcx⟩ := qy k (by omega)
                  cases ha'
                  rw [HTK.out] at hcx
                  go_simp
                  all_goals rfl
                try simp only [Act.put, List.setIfInBounds_toArray, List.set_cons_zero, List.set_cons_succ]
                refine later_take (i := 15) (d := 159) (v := ?_) (by kernel_rfl) (by kernel_rfl) (by kernel_rfl) (by kernel_rfl) (fun _ _ _ h => h) (fun oi hoi => ?_) ?_
                rotate_left
                · simp at hoi
                  subst hoi
                  refine ⟨by rfl, fun w' hw' => ?_⟩
                  go_simp
                  all_goals rfl
                try simp only [Act.put, List.setIfInBounds_toArray, List.set_cons_zero, List.set_cons_succ]
                refine later_take (i := 16) (d := 160) (v := ?_) (by kernel_rfl) (by kernel_rfl) (by kernel_rfl) (by kernel_rfl) (fun _ _ _ h => h) (fun oi hoi => ?_) ?_
                rotate_left
                · simp at hoi
                  subst hoi
                  refine ⟨by rfl, fun w' hw' => ?_⟩
                  go_simp
                  all_goals rfl
                try simp only [Act.put, List.setIfInBounds_toArray, List.set_cons_zero, List.set_cons_succ]
                refine later_done (by kernel_rfl) ?_ _
                go_wp2_with fail
                go_roundw
                case rel => exact ⟨k + 1, by omega, by simp, T, X, R, HB⟩
                case measure => simp [intOf]; omega
            · have hlk2 : decide ((k : Int) < 15) = false := by simp; omega
              have l1 := (unhide X).box.cell
              go_wp2_with fail
              refine (iTreOk_any _ XX _ (unhide X).row (unhide HMX)).mono ?_
              rw [HOKX.out]
              rintro e wa ⟨rfl, hb⟩
              replace X := hide ((unhide X).below hb)
              replace HB := hide (HB.out.trans (hb.mono HB.out.size))
              clear hb
              clear l1
              have l1 := (unhide X).box.cell
              go_wp2_with fail
              refine (iTreIn_any _ XX _ (unhide X).row (unhide HMX)).mono ?_
              rintro e wb ⟨ub, rfl, hob, hb⟩
              have I := hide hob.irow
              obtain ⟨uo, uc, hub⟩ := row_form' hob
              subst hub
              clear hob
              replace HB := hide (HB.out.trans (hb.mono HB.out.size))
              clear hb l1
              go_wp2_with fail
              refine (keIn_any _ (inRes XX) p _ (unhide I)).mono ?_
              rw [HINX.out]
              rintro e wd ⟨rfl, rfl⟩
              go_wp2_with fail
              go_ret
              exact ⟨rfl, unhide HB⟩
  · have hC := HCS.out (fun e => hY0 (by rw [e]; rfl))
    have HYL : Hid (YY.length = 15) := hC.lenY
    have HUL : Hid (us.length = 15) := hC.len
    have HIN := hide hC.in_
    have HOU := hide hC.out
    have HLG : Hid (0 ≤ lfG ∧ lfG ≤ 14) := by have := hC.leaf; rw [HLQ.out] at this; exact this
    have XAG : Hid (G = lfG :: upOf lfG) := by
      show _ = _
      rw [← HCG.out]
      unfold chainOf
      rw [if_pos HLG.out]
    obtain ⟨gY, rfl⟩ := row_some (unhide Y).row HYL.out
    obtain ⟨gV, rfl⟩ := row_some (unhide V).row HUL.out
    clear hC hY0 HCS
    rw [HYL.out] at lY Y ⊢
    rw [HUL.out] at V ⊢
    go_wp2_with fail
    refine (iTreLeaf_any q _).mono ?_
    rw [HLQ.out]
    rintro e wg ⟨rfl, rfl⟩
    go_wp2_with fail
    refine (iTreLeaf_any q _).mono ?_
    rw [HLQ.out]
    rintro e wz ⟨rfl, rfl⟩
    go_wp2_with fail
    refine (iTreUp_any lfG _).mono ?_
    rintro e wcx ⟨vcx, rfl, hox, hbx⟩
    have Nx := hide hox.irow.news
    have hrx : Hid (wcx.ownsRow wg.heap.size 3 1 (.slice (some ⟨wg.heap.size, 0, none⟩) 1 1) 1 [.int .i64 lfG]) := own_below' (World.ownsRow_lit (base := wg.heap.size) (e := 3) (size := 1) wg #[.int .i64 lfG] 1 (Nat.le_refl _) (by unfold maxLen; omega) rfl) hbx
    have hcx : Hid (Below wg.heap.size wg wcx) := ((Below.refl _ _).alloc (Nat.le_refl _) _).trans (hbx.mono (by simp))
    have hlu : (upOf lfG).length ≤ 4 := by rw [upOf_chain]; exact chain_len _
    clear hox hbx
    go_wp2_with (at_builtin; refine wpList_append_row _ rfl _ _ 33 rfl wg.heap.size 3 i0 (.int .i64 0) 1 8 Try.underlying33 (unhide hI).1 (unhide hI).2.1 (unhide hI).2.2.1 (unhide hI).2.2.2 rfl (by decide) _ _ _ rfl (unhide hrx) _ _ _ rfl (unhide Nx) (ints_one _) (by unfold maxLen; omega) (by omega) (unhide hcx).size ?_)
    intro vx wx hownx hgx
    have hox2 : OwnI wg.heap.size wx vx G := by
      rw [XAG.out]
      unfold OwnI
      rw [List.length_cons, Nat.add_comm]
      exact hownx
    have hb : Below wg.heap.size wg wx := (unhide hcx).grown hgx (unhide hcx).size (fun k hk => by cases hk; exact Nat.le_refl _)
    obtain ⟨ox, cx, hvx⟩ := row_form' hox2
    subst hvx
    have R := hide hox2.irow
    replace T := hide ((unhide T).below hb)
    replace V := hide ((unhide V).below hb)
    replace X := hide ((unhide X).below hb)
    replace Y := hide ((unhide Y).below hb)
    replace HB := hide (HB.out.trans (hb.mono HB.out.size))
    clear hb
    clear hownx hgx hox2 hrx hcx Nx hlu
    have HGL : Hid (G.length ≤ 5) := by show _ ≤ _; rw [XAG.out, List.length_cons, upOf_chain]; have := chain_len (overOf lfG); omega
    obtain ⟨gl, hgl⟩ : ∃ gl, G.length = gl := ⟨_, rfl⟩
    rw [hgl] at R ⊢
    clear lY hgl
    go_wp2_with fail
    go_loopw [13] (fun i wr => ∃ k : Nat, k ≤ 15 ∧ i = .int .i64 (k : Int) ∧ Hid (TV w2.heap.size (.slice ao xs.length kp) xs wr) ∧ Hid (TV w3.heap.size (.slice (some gV) 15 kp2) us wr) ∧ Hid (TV w4.heap.size (.slice ao4 XX.length kp4) XX wr) ∧ Hid (TV w5.heap.size (.slice (some gY) 15 kp5) YY wr) ∧ Hid (IRow wr (.slice ox gl cx) G) ∧ Hid (Below w.heap.size w wr)) (fun i _ => 15 - (intOf i).toNat)
    case atStart => exact ⟨0, by omega, rfl, T, V, X, Y, R, HB⟩
    case round =>
      clear T V X Y R HB
      obtain ⟨k, hk, rfl, T, V, X, Y, R, HB⟩ := hrel
      by_cases hlt : k < 15
      · have hlt2 : (k : Int) < 15 := by omega
        have i3 : IntKind.i64.wrap ((k : Int) + 1) = (k : Int) + 1 := by simp [IntKind.wrap, IntKind.bits, IntKind.signed]; omega
        replace T := hide (unhide T).drew
        replace V := hide (unhide V).drew
        replace X := hide (unhide X).drew
        replace Y := hide (unhide Y).drew
        replace R := hide (unhide R).drew
        replace HB := hide HB.out.drew
        cases hkn : decide ((k : Int) ∈ G) with
        | true =>
          have HYK := hide (HIN.out k hlt hkn)
          have hnt : (ByteArray.empty).toList = [] := nil_text
          have HKN := hide hkn
          clear hkn
          go_wp2_with fail
          refine wp_region_later (by kernel_rfl) ?_
          refine later_take (i := 0) (d := 78) (v := ?_) (by kernel_rfl) (by kernel_rfl) (by kernel_rfl) (by kernel_rfl) (fun _ _ _ h => h) (fun oi hoi => ?_) ?_
          rotate_left
          · simp at hoi
            subst hoi
            refine ⟨by rfl, fun w' hw' => ?_⟩
            go_simp
            all_goals rfl
          try simp only [Act.put, List.setIfInBounds_toArray, List.set_cons_zero, List.set_cons_succ]
          refine later_take (i := 1) (d := 79) (v := ?_) (by kernel_rfl) (by kernel_rfl) (by kernel_rfl) (by kernel_rfl) (fun _ _ _ h => h) (fun oi hoi => ?_) ?_
          rotate_left
          · simp at hoi
            subst hoi
            refine ⟨by rfl, fun w' hw' => ?_⟩
            go_simp
            all_goals rfl
          try simp only [Act.put, List.setIfInBounds_toArray, List.set_cons_zero, List.set_cons_succ]
          refine later_one (i := 2) (by kernel_rfl) (fun oi K hoi hK => ?_)
          simp at hoi
          subst hoi
          refine ⟨by rfl, ?_⟩
          go_simp
          refine (keIn_any _ G (k : Int) _ (unhide R)).mono ?_
          rw [HKN.out]
          rintro e wk ⟨rfl, rfl⟩
          go_simp
          refine hK.out _ _ (Below.refl _ _) ?_
          clear hK
          try simp only [Act.put, List.setIfInBounds_toArray, List.set_cons_zero, List.set_cons_succ]
          refine later_take (i := 3) (d := 81) (v := ?_) (by kernel_rfl) (by kernel_rfl) (by kernel_rfl) (by kernel_rfl) (fun _ _ _ h => h) (fun oi hoi => ?_) ?_
          rotate_left
          · simp at hoi
            subst hoi
            refine ⟨by rfl, fun w' hw' => ?_⟩
            go_simp
            all_goals rfl
          try simp only [Act.put, List.setIfInBounds_toArray, List.set_cons_zero, List.set_cons_succ]
          refine later_take (i := 4) (d := 82) (v := ?_) (by kernel_rfl) (by kernel_rfl) (by kernel_rfl) (by kernel_rfl) (fun _ _ _ h => h) (fun oi hoi => ?_) ?_
          rotate_left
          · simp at hoi
            subst hoi
            refine ⟨by rfl, fun w' hw' => ?_⟩
            go_simp
            all_goals rfl
          try simp only [Act.put, List.setIfInBounds_toArray, List.set_cons_zero, List.set_cons_succ]
          refine later_take (i := 5) (d := 83) (v := ?_) (by kernel_rfl) (by kernel_rfl) (by kernel_rfl) (by kernel_rfl) (fun _ _ _ h => h) (fun oi hoi => ?_) ?_
          rotate_left
          · simp at hoi
            subst hoi
            refine ⟨by rfl, fun w' hw' => ?_⟩
            have hx := (box_below (unhide Y).box hw').cell
            go_simp
            all_goals rfl
          try simp only [Act.put, List.setIfInBounds_toArray, List.set_cons_zero, List.set_cons_succ]
          refine later_take (i := 6) (d := 84) (v := ?_) (by kernel_rfl) (by kernel_rfl) (by kernel_rfl) (by kernel_rfl) (fun _ _ _ h => h) (fun oi hoi => ?_) ?_
          rotate_left
          · simp at hoi
            subst hoi
            refine ⟨by rfl, fun w' hw' => ?_⟩
            go_simp
            all_goals rfl
          try simp only [Act.put, List.setIfInBounds_toArray, List.set_cons_zero, List.set_cons_succ]
          refine later_take (i := 7) (d := 85) (v := ?_) (by kernel_rfl) (by kernel_rfl) (by kernel_rfl) (by kernel_rfl) (fun _ _ _ h => h) (fun oi hoi => ?_) ?_
          rotate_left
          · simp at hoi
            subst hoi
            refine ⟨by rfl, fun w' hw' => ?_⟩
            go_simp
            all_goals rfl
          try simp only [Act.put, List.setIfInBounds_toArray, List.set_cons_zero, List.set_cons_succ]
          refine later_take (i := 8) (d := 86) (v := ?_) (by kernel_rfl) (by kernel_rfl) (by kernel_rfl) (by kernel_rfl) (fun _ _ _ h => h) (fun oi hoi => ?_) ?_
          rotate_left
          · simp at hoi
            subst hoi
            refine ⟨by rfl, fun w' hw' => ?_⟩
            have hx := ((unhide Y).row.below hw').form
            obtain ⟨ax, cx, qx, _, _, qy⟩ := hx
            rw [HYL.out] at qx qy
            simp only [Value.slice.injEq] at qx
            obtain ⟨rfl, _, rfl⟩ := qx
            obtain ⟨a', ha', hcx⟩ := qy k (by omega)
            cases ha'
            rw [HYK.out] at hcx
            go_simp
            all_goals rfl
          try simp only [Act.put, List.setIfInBounds_toArray, List.set_cons_zero, List.set_cons_succ]
          refine later_take (i := 9) (d := 87) (v := ?_) (by kernel_rfl) (by kernel_rfl) (by kernel_rfl) (by kernel_rfl) (fun _ _ _ h => h) (fun oi hoi => ?_) ?_
          rotate_left
          · simp at hoi
            subst hoi
            refine ⟨by rfl, fun w' hw' => ?_⟩
            go_simp
            all_goals rfl
          try simp only [Act.put, List.setIfInBounds_toArray, List.set_cons_zero, List.set_cons_succ]
          refine later_take (i := 10) (d := 88) (v := ?_) (by kernel_rfl) (by kernel_rfl) (by kernel_rfl) (by kernel_rfl) (fun _ _ _ h => h) (fun oi hoi => ?_) ?_
          rotate_left
          · simp at hoi
            subst hoi
            refine ⟨by rfl, fun w' hw' => ?_⟩
            go_simp
            all_goals rfl
          try simp only [Act.put, List.setIfInBounds_toArray, List.set_cons_zero, List.set_cons_succ]
          refine later_take (i := 11) (d := 89) (v := ?_) (by kernel_rfl) (by kernel_rfl) (by kernel_rfl) (by kernel_rfl) (fun _ _ _ h => h) (fun oi hoi => ?_) ?_
          rotate_left
          · simp at hoi
            subst hoi
            refine ⟨by rfl, fun w' hw' => ?_⟩
            go_simp
            all_goals rfl
          try simp only [Act.put, List.setIfInBounds_toArray, List.set_cons_zero, List.set_cons_succ]
          refine later_take (i := 12) (d := 90) (v := ?_) (by kernel_rfl) (by kernel_rfl) (by kernel_rfl) (by kernel_rfl) (fun _ _ _ h => h) (fun oi hoi => ?_) ?_
          rotate_left
          · simp at hoi
            subst hoi
            refine ⟨by rfl, fun w' hw' => ?_⟩
            go_simp
            all_goals rfl
          try simp only [Act.put, List.setIfInBounds_toArray, List.set_cons_zero, List.set_cons_succ]
          refine later_take (i := 13) (d := 91) (v := ?_) (by kernel_rfl) (by kernel_rfl) (by kernel_rfl) (by kernel_rfl) (fun _ _ _ h => h) (fun oi hoi => ?_) ?_
          rotate_left
          · simp at hoi
            subst hoi
            refine ⟨by rfl, fun w' hw' => ?_⟩
            go_simp
            all_goals rfl
          try simp only [Act.put, List.setIfInBounds_toArray, List.set_cons_zero, List.set_cons_succ]
          refine later_one (i := 14) (by kernel_rfl) (fun oi K hoi hK => ?_)
          simp at hoi
          subst hoi
          refine ⟨by rfl, ?_⟩
          go_simp
          refine (keIn_any _ G (k : Int) _ (unhide R)).mono ?_
          rw [HKN.out]
          rintro e wk ⟨rfl, rfl⟩
          go_simp
          refine hK.out _ _ (Below.refl _ _) ?_
          clear hK
          try simp only [Act.put, List.setIfInBounds_toArray, List.set_cons_zero, List.set_cons_succ]
          refine later_take (i := 15) (d := 93) (v := ?_) (by kernel_rfl) (by kernel_rfl) (by kernel_rfl) (by kernel_rfl) (fun _ _ _ h => h) (fun oi hoi => ?_) ?_
          rotate_left
          · simp at hoi
            subst hoi
            refine ⟨by rfl, fun w' hw' => ?_⟩
            go_simp
            all_goals rfl
          try simp only [Act.put, List.setIfInBounds_toArray, List.set_cons_zero, List.set_cons_succ]
          refine later_take (i := 16) (d := 94) (v := ?_) (by kernel_rfl) (by kernel_rfl) (by kernel_rfl) (by kernel_rfl) (fun _ _ _ h => h) (fun oi hoi => ?_) ?_
          rotate_left
          · simp at hoi
            subst hoi
            refine ⟨by rfl, fun w' hw' => ?_⟩
            go_simp
            all_goals rfl
          try simp only [Act.put, List.setIfInBounds_toArray, List.set_cons_zero, List.set_cons_succ]
          refine later_skip (i := 17) (d := 95) (by kernel_rfl) (by kernel_rfl) (by kernel_rfl) (by kernel_rfl) (fun _ _ _ h => h) (by rfl) ?_
          try simp only [Act.put, List.setIfInBounds_toArray, List.set_cons_zero, List.set_cons_succ]
          refine later_skip (i := 18) (d := 96) (by kernel_rfl) (by kernel_rfl) (by kernel_rfl) (by kernel_rfl) (fun _ _ _ h => h) (by rfl) ?_
          try simp only [Act.put, List.setIfInBounds_toArray, List.set_cons_zero, List.set_cons_succ]
          refine later_skip (i := 19) (d := 97) (by kernel_rfl) (by kernel_rfl) (by kernel_rfl) (by kernel_rfl) (fun _ _ _ h => h) (by rfl) ?_
          try simp only [Act.put, List.setIfInBounds_toArray, List.set_cons_zero, List.set_cons_succ]
          refine later_skip (i := 20) (d := 98) (by kernel_rfl) (by kernel_rfl) (by kernel_rfl) (by kernel_rfl) (fun _ _ _ h => h) (by rfl) ?_
          try simp only [Act.put, List.setIfInBounds_toArray, List.set_cons_zero, List.set_cons_succ]
          refine later_skip (i := 21) (d := 99) (by kernel_rfl) (by kernel_rfl) (by kernel_rfl) (by kernel_rfl) (fun _ _ _ h => h) (by rfl) ?_
          try simp only [Act.put, List.setIfInBounds_toArray, List.set_cons_zero, List.set_cons_succ]
          refine later_skip (i := 22) (d := 100) (by kernel_rfl) (by kernel_rfl) (by kernel_rfl) (by kernel_rfl) (fun _ _ _ h => h) (by rfl) ?_
          try simp only [Act.put, List.setIfInBounds_toArray, List.set_cons_zero, List.set_cons_succ]
          refine later_skip (i := 23) (d := 101) (by kernel_rfl) (by kernel_rfl) (by kernel_rfl) (by kernel_rfl) (fun _ _ _ h => h) (by rfl) ?_
          try simp only [Act.put, List.setIfInBounds_toArray, List.set_cons_zero, List.set_cons_succ]
          refine later_skip (i := 24) (d := 102) (by kernel_rfl) (by kernel_rfl) (by kernel_rfl) (by kernel_rfl) (fun _ _ _ h => h) (by rfl) ?_
          try simp only [Act.put, List.setIfInBounds_toArray, List.set_cons_zero, List.set_cons_succ]
          refine later_skip (i := 25) (d := 103) (by kernel_rfl) (by kernel_rfl) (by kernel_rfl) (by kernel_rfl) (fun _ _ _ h => h) (by rfl) ?_
          try simp only [Act.put, List.setIfInBounds_toArray, List.set_cons_zero, List.set_cons_succ]
          refine later_skip (i := 26) (d := 104) (by kernel_rfl) (by kernel_rfl) (by kernel_rfl) (by kernel_rfl) (fun _ _ _ h => h) (by rfl) ?_
          try simp only [Act.put, List.setIfInBounds_toArray, List.set_cons_zero, List.set_cons_succ]
          refine later_skip (i := 27) (d := 105) (by kernel_rfl) (by kernel_rfl) (by kernel_rfl) (by kernel_rfl) (fun _ _ _ h => h) (by rfl) ?_
          try simp only [Act.put, List.setIfInBounds_toArray, List.set_cons_zero, List.set_cons_succ]
          refine later_take (i := 28) (d := 106) (v := ?_) (by kernel_rfl) (by kernel_rfl) (by kernel_rfl) (by kernel_rfl) (fun _ _ _ h => h) (fun oi hoi => ?_) ?_
          rotate_left
          · simp at hoi
            subst hoi
            refine ⟨by rfl, fun w' hw' => ?_⟩
            go_simp
            all_goals rfl
          try simp only [Act.put, List.setIfInBounds_toArray, List.set_cons_zero, List.set_cons_succ]
          refine later_take (i := 29) (d := 107) (v := ?_) (by kernel_rfl) (by kernel_rfl) (by kernel_rfl) (by kernel_rfl) (fun _ _ _ h => h) (fun oi hoi => ?_) ?_
          rotate_left
          · simp at hoi
            subst hoi
            refine ⟨by rfl, fun w' hw' => ?_⟩
            go_simp
            all_goals rfl
          try simp only [Act.put, List.setIfInBounds_toArray, List.set_cons_zero, List.set_cons_succ]
          refine later_done (by kernel_rfl) ?_ _
          go_wp2_with fail
          go_roundw
          case rel => exact ⟨k + 1, by omega, by simp, T, V, X, Y, R, HB⟩
          case measure => simp [intOf]; omega
        | false =>
          have hyk := HOU.out k hlt hkn
          have HKN := hide hkn
          clear hkn
          obtain ⟨y, hy⟩ : ∃ y, us.getD k ByteArray.empty = y := ⟨_, rfl⟩
          rw [hy] at hyk
          have HYK := hide hyk
          have HUK := hide hy
          clear hyk hy
          go_wp2_with fail
          refine wp_region_later (by kernel_rfl) ?_
          refine later_take (i := 0) (d := 78) (v := ?_) (by kernel_rfl) (by kernel_rfl) (by kernel_rfl) (by kernel_rfl) (fun _ _ _ h => h) (fun oi hoi => ?_) ?_
          rotate_left
          · simp at hoi
            subst hoi
            refine ⟨by rfl, fun w' hw' => ?_⟩
            go_simp
            all_goals rfl
          try simp only [Act.put, List.setIfInBounds_toArray, List.set_cons_zero, List.set_cons_succ]
          refine later_take (i := 1) (d := 79) (v := ?_) (by kernel_rfl) (by kernel_rfl) (by kernel_rfl) (by kernel_rfl) (fun _ _ _ h => h) (fun oi hoi => ?_) ?_
          rotate_left
          · simp at hoi
            subst hoi
            refine ⟨by rfl, fun w' hw' => ?_⟩
            go_simp
            all_goals rfl
          try simp only [Act.put, List.setIfInBounds_toArray, List.set_cons_zero, List.set_cons_succ]
          refine later_one (i := 2) (by kernel_rfl) (fun oi K hoi hK => ?_)
          simp at hoi
          subst hoi
          refine ⟨by rfl, ?_⟩
          go_simp
          refine (keIn_any _ G (k : Int) _ (unhide R)).mono ?_
          rw [HKN.out]
          rintro e wk ⟨rfl, rfl⟩
          go_simp
          refine hK.out _ _ (Below.refl _ _) ?_
          clear hK
          try simp only [Act.put, List.setIfInBounds_toArray, List.set_cons_zero, List.set_cons_succ]
          refine later_take (i := 3) (d := 81) (v := ?_) (by kernel_rfl) (by kernel_rfl) (by kernel_rfl) (by kernel_rfl) (fun _ _ _ h => h) (fun oi hoi => ?_) ?_
          rotate_left
          · simp at hoi
            subst hoi
            refine ⟨by rfl, fun w' hw' => ?_⟩
            go_simp
            all_goals rfl
          try simp only [Act.put, List.setIfInBounds_toArray, List.set_cons_zero, List.set_cons_succ]
          refine later_skip (i := 4) (d := 82) (by kernel_rfl) (by kernel_rfl) (by kernel_rfl) (by kernel_rfl) (fun _ _ _ h => h) (by rfl) ?_
          try simp only [Act.put, List.setIfInBounds_toArray, List.set_cons_zero, List.set_cons_succ]
          refine later_skip (i := 5) (d := 83) (by kernel_rfl) (by kernel_rfl) (by kernel_rfl) (by kernel_rfl) (fun _ _ _ h => h) (by rfl) ?_
          try simp only [Act.put, List.setIfInBounds_toArray, List.set_cons_zero, List.set_cons_succ]
          refine later_skip (i := 6) (d := 84) (by kernel_rfl) (by kernel_rfl) (by kernel_rfl) (by kernel_rfl) (fun _ _ _ h => h) (by rfl) ?_
          try simp only [Act.put, List.setIfInBounds_toArray, List.set_cons_zero, List.set_cons_succ]
          refine later_skip (i := 7) (d := 85) (by kernel_rfl) (by kernel_rfl) (by kernel_rfl) (by kernel_rfl) (fun _ _ _ h => h) (by rfl) ?_
          try simp only [Act.put, List.setIfInBounds_toArray, List.set_cons_zero, List.set_cons_succ]
          refine later_skip (i := 8) (d := 86) (by kernel_rfl) (by kernel_rfl) (by kernel_rfl) (by kernel_rfl) (fun _ _ _ h => h) (by rfl) ?_
          try simp only [Act.put, List.setIfInBounds_toArray, List.set_cons_zero, List.set_cons_succ]
          refine later_skip (i := 9) (d := 87) (by kernel_rfl) (by kernel_rfl) (by kernel_rfl) (by kernel_rfl) (fun _ _ _ h => h) (by rfl) ?_
          try simp only [Act.put, List.setIfInBounds_toArray, List.set_cons_zero, List.set_cons_succ]
          refine later_take (i := 10) (d := 88) (v := ?_) (by kernel_rfl) (by kernel_rfl) (by kernel_rfl) (by kernel_rfl) (fun _ _ _ h => h) (fun oi hoi => ?_) ?_
          rotate_left
          · simp at hoi
            subst hoi
            refine ⟨by rfl, fun w' hw' => ?_⟩
            go_simp
            all_goals rfl
          try simp only [Act.put, List.setIfInBounds_toArray, List.set_cons_zero, List.set_cons_succ]
          refine later_take (i := 11) (d := 89) (v := ?_) (by kernel_rfl) (by kernel_rfl) (by kernel_rfl) (by kernel_rfl) (fun _ _ _ h => h) (fun oi hoi => ?_) ?_
          rotate_left
          · simp at hoi
            subst hoi
            refine ⟨by rfl, fun w' hw' => ?_⟩
            go_simp
            all_goals rfl
          try simp only [Act.put, List.setIfInBounds_toArray, List.set_cons_zero, List.set_cons_succ]
          refine later_take (i := 12) (d := 90) (v := ?_) (by kernel_rfl) (by kernel_rfl) (by kernel_rfl) (by kernel_rfl) (fun _ _ _ h => h) (fun oi hoi => ?_) ?_
          rotate_left
          · simp at hoi
            subst hoi
            refine ⟨by rfl, fun w' hw' => ?_⟩
            go_simp
            all_goals rfl
          try simp only [Act.put, List.setIfInBounds_toArray, List.set_cons_zero, List.set_cons_succ]
          refine later_take (i := 13) (d := 91) (v := ?_) (by kernel_rfl) (by kernel_rfl) (by kernel_rfl) (by kernel_rfl) (fun _ _ _ h => h) (fun oi hoi => ?_) ?_
          rotate_left
          · simp at hoi
            subst hoi
            refine ⟨by rfl, fun w' hw' => ?_⟩
            go_simp
            all_goals rfl
          try simp only [Act.put, List.setIfInBounds_toArray, List.set_cons_zero, List.set_cons_succ]
          refine later_one (i := 14) (by kernel_rfl) (fun oi K hoi hK => ?_)
          simp at hoi
          subst hoi
          refine ⟨by rfl, ?_⟩
          go_simp
          refine (keIn_any _ G (k : Int) _ (unhide R)).mono ?_
          rw [HKN.out]
          rintro e wk ⟨rfl, rfl⟩
          go_simp
          refine hK.out _ _ (Below.refl _ _) ?_
          clear hK
          try simp only [Act.put, List.setIfInBounds_toArray, List.set_cons_zero, List.set_cons_succ]
          refine later_take (i := 15) (d := 93) (v := ?_) (by kernel_rfl) (by kernel_rfl) (by kernel_rfl) (by kernel_rfl) (fun _ _ _ h => h) (fun oi hoi => ?_) ?_
          rotate_left
          · simp at hoi
            subst hoi
            refine ⟨by rfl, fun w' hw' => ?_⟩
            go_simp
            all_goals rfl
          try simp only [Act.put, List.setIfInBounds_toArray, List.set_cons_zero, List.set_cons_succ]
          refine later_take (i := 16) (d := 94) (v := ?_) (by kernel_rfl) (by kernel_rfl) (by kernel_rfl) (by kernel_rfl) (fun _ _ _ h => h) (fun oi hoi => ?_) ?_
          rotate_left
          · simp at hoi
            subst hoi
            refine ⟨by rfl, fun w' hw' => ?_⟩
            go_simp
            all_goals rfl
          try simp only [Act.put, List.setIfInBounds_toArray, List.set_cons_zero, List.set_cons_succ]
          refine later_take (i := 17) (d := 95) (v := ?_) (by kernel_rfl) (by kernel_rfl) (by kernel_rfl) (by kernel_rfl) (fun _ _ _ h => h) (fun oi hoi => ?_) ?_
          rotate_left
          · simp at hoi
            subst hoi
            refine ⟨by rfl, fun w' hw' => ?_⟩
            go_simp
            all_goals rfl
          try simp only [Act.put, List.setIfInBounds_toArray, List.set_cons_zero, List.set_cons_succ]
          refine later_take (i := 18) (d := 96) (v := ?_) (by kernel_rfl) (by kernel_rfl) (by kernel_rfl) (by kernel_rfl) (fun _ _ _ h => h) (fun oi hoi => ?_) ?_
          rotate_left
          · simp at hoi
            subst hoi
            refine ⟨by rfl, fun w' hw' => ?_⟩
            have hx := (box_below (unhide Y).box hw').cell
            go_simp
            all_goals rfl
          try simp only [Act.put, List.setIfInBounds_toArray, List.set_cons_zero, List.set_cons_succ]
          refine later_take (i := 19) (d := 97) (v := ?_) (by kernel_rfl) (by kernel_rfl) (by kernel_rfl) (by kernel_rfl) (fun _ _ _ h => h) (fun oi hoi => ?_) ?_
          rotate_left
          · simp at hoi
            subst hoi
            refine ⟨by rfl, fun w' hw' => ?_⟩
            go_simp
            all_goals rfl
          try simp only [Act.put, List.setIfInBounds_toArray, List.set_cons_zero, List.set_cons_succ]
          refine later_take (i := 20) (d := 98) (v := ?_) (by kernel_rfl) (by kernel_rfl) (by kernel_rfl) (by kernel_rfl) (fun _ _ _ h => h) (fun oi hoi => ?_) ?_
          rotate_left
          · simp at hoi
            subst hoi
            refine ⟨by rfl, fun w' hw' => ?_⟩
            go_simp
            all_goals rfl
          try simp only [Act.put, List.setIfInBounds_toArray, List.set_cons_zero, List.set_cons_succ]
          refine later_take (i := 21) (d := 99) (v := ?_) (by kernel_rfl) (by kernel_rfl) (by kernel_rfl) (by kernel_rfl) (fun _ _ _ h => h) (fun oi hoi => ?_) ?_
          rotate_left
          · simp at hoi
            subst hoi
            refine ⟨by rfl, fun w' hw' => ?_⟩
            have hx := ((unhide Y).row.below hw').form
            obtain ⟨ax, cx, qx, _, _, qy⟩ := hx
            rw [HYL.out] at qx qy
            simp only [Value.slice.injEq] at qx
            obtain ⟨rfl, _, rfl⟩ := qx
            obtain ⟨a', ha', hcx⟩ := qy k (by omega)
            cases ha'
            rw [HYK.out] at hcx
            go_simp
            all_goals rfl
          try simp only [Act.put, List.setIfInBounds_toArray, List.set_cons_zero, List.set_cons_succ]
          refine later_take (i := 22) (d := 100) (v := ?_) (by kernel_rfl) (by kernel_rfl) (by kernel_rfl) (by kernel_rfl) (fun _ _ _ h => h) (fun oi hoi => ?_) ?_
          rotate_left
          · simp at hoi
            subst hoi
            refine ⟨by rfl, fun w' hw' => ?_⟩
            go_simp
            all_goals rfl
          try simp only [Act.put, List.setIfInBounds_toArray, List.set_cons_zero, List.set_cons_succ]
          refine later_take (i := 23) (d := 101) (v := ?_) (by kernel_rfl) (by kernel_rfl) (by kernel_rfl) (by kernel_rfl) (fun _ _ _ h => h) (fun oi hoi => ?_) ?_
          rotate_left
          · simp at hoi
            subst hoi
            refine ⟨by rfl, fun w' hw' => ?_⟩
            have hx := (box_below (unhide V).box hw').cell
            go_simp
            all_goals rfl
          try simp only [Act.put, List.setIfInBounds_toArray, List.set_cons_zero, List.set_cons_succ]
          refine later_take (i := 24) (d := 102) (v := ?_) (by kernel_rfl) (by kernel_rfl) (by kernel_rfl) (by kernel_rfl) (fun _ _ _ h => h) (fun oi hoi => ?_) ?_
          rotate_left
          · simp at hoi
            subst hoi
            refine ⟨by rfl, fun w' hw' => ?_⟩
            go_simp
            all_goals rfl
          try simp only [Act.put, List.setIfInBounds_toArray, List.set_cons_zero, List.set_cons_succ]
          refine later_take (i := 25) (d := 103) (v := ?_) (by kernel_rfl) (by kernel_rfl) (by kernel_rfl) (by kernel_rfl) (fun _ _ _ h => h) (fun oi hoi => ?_) ?_
          rotate_left
          · simp at hoi
            subst hoi
            refine ⟨by rfl, fun w' hw' => ?_⟩
            go_simp
            all_goals rfl
          try simp only [Act.put, List.setIfInBounds_toArray, List.set_cons_zero, List.set_cons_succ]
          refine later_take (i := 26) (d := 104) (v := ?_) (by kernel_rfl) (by kernel_rfl) (by kernel_rfl) (by kernel_rfl) (fun _ _ _ h => h) (fun oi hoi => ?_) ?_
          rotate_left
          · simp at hoi
            subst hoi
            refine ⟨by rfl, fun w' hw' => ?_⟩
            have hx := ((unhide V).row.below hw').form
            obtain ⟨ax, cx, qx, _, _, qy⟩ := hx
            rw [HUL.out] at qx qy
            simp only [Value.slice.injEq] at qx
            obtain ⟨rfl, _, rfl⟩ := qx
            obtain ⟨a', ha', hcx⟩ := qy k (by omega)
            cases ha'
            rw [HUK.out] at hcx
            go_simp
            all_goals rfl
          try simp only [Act.put, List.setIfInBounds_toArray, List.set_cons_zero, List.set_cons_succ]
          refine later_take (i := 27) (d := 105) (v := ?_) (by kernel_rfl) (by kernel_rfl) (by kernel_rfl) (by kernel_rfl) (fun _ _ _ h => h) (fun oi hoi => ?_) ?_
          rotate_left
          · simp at hoi
            subst hoi
            refine ⟨by rfl, fun w' hw' => ?_⟩
            go_simp
            all_goals rfl
          try simp only [Act.put, List.setIfInBounds_toArray, List.set_cons_zero, List.set_cons_succ]
          refine later_take (i := 28) (d := 106) (v := ?_) (by kernel_rfl) (by kernel_rfl) (by kernel_rfl) (by kernel_rfl) (fun _ _ _ h => h) (fun oi hoi => ?_) ?_
          rotate_left
          · simp at hoi
            subst hoi
            refine ⟨by rfl, fun w' hw' => ?_⟩
            go_simp
            all_goals rfl
          try simp only [Act.put, List.setIfInBounds_toArray, List.set_cons_zero, List.set_cons_succ]
          refine later_take (i := 29) (d := 107) (v := ?_) (by kernel_rfl) (by kernel_rfl) (by kernel_rfl) (by kernel_rfl) (fun _ _ _ h => h) (fun oi hoi => ?_) ?_
          rotate_left
          · simp at hoi
            subst hoi
            refine ⟨by rfl, fun w' hw' => ?_⟩
            go_simp
            all_goals rfl
          try simp only [Act.put, List.setIfInBounds_toArray, List.set_cons_zero, List.set_cons_succ]
          refine later_done (by kernel_rfl) ?_ _
          go_wp2_with fail
          go_roundw
          case rel => exact ⟨k + 1, by omega, by simp, T, V, X, Y, R, HB⟩
          case measure => simp [intOf]; omega
      · have hlt2 : decide ((k : Int) < 15) = false := by simp; omega
        obtain rfl : k = 15 := by omega
        clear V Y R
        rw [show ((15 : Nat) : Int) = 15 from rfl] at *
        have lX := (unhide X).box.cell
        by_cases hX0 : XX.length = 0
        · rw [hX0]
          have hX1 : ((0 : Int) == 0) = true := rfl
          rw [hX0] at lX
          go_wp2_with fail
          refine (keOk_any _).mono ?_
          rintro e we ⟨rfl, hb⟩
          have HBe := hide (HB.out.trans (hb.mono HB.out.size))
          clear hb
          go_wp2_with fail
          go_ret
          exact ⟨rfl, unhide HBe⟩
        · have hS := HSS.out (fun e => hX0 (by rw [e]; rfl))
          have HXL : Hid (XX.length = 15) := hS.lenX
          have HTL : Hid (xs.length = 15) := hS.len
          have HCL : Hid (CC.length = 4) := hS.lenC
          have HAT := hide hS.at_
          have HOUT := hide hS.out
          have HOKX := hide hS.ok
          have HINX := hide hS.inn
          have hs3 := hS.s300
          have HLC : Hid (0 ≤ lfCC ∧ lfCC ≤ 14) := by have := hS.leaf; rw [HLP.out] at this; exact this
          have XAC : Hid (CC = lfCC :: upOf lfCC) := by
            show _ = _
            rw [← HCC.out]
            unfold chainOf
            rw [if_pos HLC.out]
          clear hS
          obtain ⟨gX, rfl⟩ := HXF.out HXL.out
          obtain ⟨gT, rfl⟩ := HTF.out HTL.out
          rw [HXL.out] at lX X ⊢
          rw [HTL.out] at T ⊢
          clear hX0
          go_wp2_with fail
          refine (iTreLeaf_any p _).mono ?_
          rw [HLP.out]
          rintro e wp ⟨rfl, rfl⟩
          go_wp2_with fail
          refine (iTreLeaf_any p _).mono ?_
          rw [HLP.out]
          rintro e wz ⟨rfl, rfl⟩
          go_wp2_with fail
          refine (iTreUp_any lfCC _).mono ?_
          rintro e wcx ⟨vcx, rfl, hox, hbx⟩
          have Nx := hide hox.irow.news
          have hrx : Hid (wcx.ownsRow wp.heap.size 3 1 (.slice (some ⟨wp.heap.size, 0, none⟩) 1 1) 1 [.int .i64 lfCC]) := own_below' (World.ownsRow_lit (base := wp.heap.size) (e := 3) (size := 1) wp #[.int .i64 lfCC] 1 (Nat.le_refl _) (by unfold maxLen; omega) rfl) hbx
          have hcx : Hid (Below wp.heap.size wp wcx) := ((Below.refl _ _).alloc (Nat.le_refl _) _).trans (hbx.mono (by simp))
          have hlu : (upOf lfCC).length ≤ 4 := by rw [upOf_chain]; exact chain_len _
          clear hox hbx
          go_wp2_with (at_builtin; refine wpList_append_row _ rfl _ _ 33 rfl wp.heap.size 3 i0 (.int .i64 0) 1 8 Try.underlying33 (unhide hI).1 (unhide hI).2.1 (unhide hI).2.2.1 (unhide hI).2.2.2 rfl (by decide) _ _ _ rfl (unhide hrx) _ _ _ rfl (unhide Nx) (ints_one _) (by unfold maxLen; omega) (by omega) (unhide hcx).size ?_)
          intro vx wx hownx hgx
          have hox2 : OwnI wp.heap.size wx vx CC := by
            rw [XAC.out]
            unfold OwnI
            rw [List.length_cons, Nat.add_comm]
            exact hownx
          have hb : Below wp.heap.size wp wx := (unhide hcx).grown hgx (unhide hcx).size (fun k hk => by cases hk; exact Nat.le_refl _)
          obtain ⟨ox, cx, hvx⟩ := row_form' hox2
          subst hvx
          have R := hide hox2.irow
          replace T := hide ((unhide T).below hb)
          replace X := hide ((unhide X).below hb)
          replace HB := hide (HB.out.trans (hb.mono HB.out.size))
          clear hb
          clear hownx hgx hox2 hrx hcx Nx hlu
          obtain ⟨go, rfl⟩ := irow_some (unhide R) HCL.out
          rw [HCL.out] at R ⊢
          clear lX
          go_wp2_with fail
          try generalize wr = wOld at *
          go_loopw [15, 16] (fun sv i wr => ∃ j : Nat, j ≤ 4 ∧ i = .int .i64 (j : Int) ∧ sv = .string (nextN s j) ∧ Hid (TV w2.heap.size (.slice (some gT) 15 kp) xs wr) ∧ Hid (TV w4.heap.size (.slice (some gX) 15 kp4) XX wr) ∧ Hid (IRow wr (.slice (some go) 4 cx) CC) ∧ Hid (Below w.heap.size w wr)) (fun _ i _ => 4 - (intOf i).toNat)
          case atStart => exact ⟨0, by omega, rfl, rfl, T, X, R, HB⟩
          case round =>
            clear T X R HB
            obtain ⟨j, hj, rfl, rfl, T, X, R, HB⟩ := hrel
            by_cases hlt : j < 4
            · have hlt2 : (j : Int) < 4 := by omega
              have i3 : IntKind.i64.wrap ((j : Int) + 1) = (j : Int) + 1 := by simp [IntKind.wrap, IntKind.bits, IntKind.signed]; omega
              obtain ⟨pq, hpq, hcj, hxk⟩ := HAT.out j hlt
              have hpq2 : ((pq : Nat) : Int) < 15 := by omega
              have HCJ := hide hcj
              have HXK := hide hxk
              have hns := nextN_size s hs3 j
              have HSC : Hid ((nextN s j).size ≤ maxLen) := by show _ ≤ _; unfold maxLen; omega
              have HNX : Hid (nextN s (j + 1) = mkNext (nextN s j)) := rfl
              clear hcj hxk
              generalize nextN s j = sc at *
              replace T := hide (unhide T).drew
              replace X := hide (unhide X).drew
              replace R := hide (unhide R).drew
              replace HB := hide HB.out.drew
              go_wp2_with fail
              refine wp_region_later (by kernel_rfl) ?_
              refine later_take (i := 0) (d := 127) (v := ?_) (by kernel_rfl) (by kernel_rfl) (by kernel_rfl) (by kernel_rfl) (fun _ _ _ h => h) (fun oi hoi => ?_) ?_
              rotate_left
              · simp at hoi
                subst hoi
                refine ⟨by rfl, fun w' hw' => ?_⟩
                go_simp
                all_goals rfl
              try simp only [Act.put, List.setIfInBounds_toArray, List.set_cons_zero, List.set_cons_succ]
              refine later_take (i := 1) (d := 128) (v := ?_) (by kernel_rfl) (by kernel_rfl) (by kernel_rfl) (by kernel_rfl) (fun _ _ _ h => h) (fun oi hoi => ?_) ?_
              rotate_left
              · simp at hoi
                subst hoi
                refine ⟨by rfl, fun w' hw' => ?_⟩
                have hx := (box_below (unhide X).box hw').cell
                go_simp
                all_goals rfl
              try simp only [Act.put, List.setIfInBounds_toArray, List.set_cons_zero, List.set_cons_succ]
              refine later_take (i := 2) (d := 129) (v := ?_) (by kernel_rfl) (by kernel_rfl) (by kernel_rfl) (by kernel_rfl) (fun _ _ _ h => h) (fun oi hoi => ?_) ?_
              rotate_left
              · simp at hoi
                subst hoi
                refine ⟨by rfl, fun w' hw' => ?_⟩
                go_simp
                all_goals rfl
              try simp only [Act.put, List.setIfInBounds_toArray, List.set_cons_zero, List.set_cons_succ]
              refine later_take (i := 3) (d := 130) (v := ?_) (by kernel_rfl) (by kernel_rfl) (by kernel_rfl) (by kernel_rfl) (fun _ _ _ h => h) (fun oi hoi => ?_) ?_
              rotate_left
              · simp at hoi
                subst hoi
                refine ⟨by rfl, fun w' hw' => ?_⟩
                go_simp
                all_goals rfl
              try simp only [Act.put, List.setIfInBounds_toArray, List.set_cons_zero, List.set_cons_succ]
              refine later_take (i := 4) (d := 131) (v := ?_) (by kernel_rfl) (by kernel_rfl) (by kernel_rfl) (by kernel_rfl) (fun _ _ _ h => h) (fun oi hoi => ?_) ?_
              rotate_left
              · simp at hoi
                subst hoi
                refine ⟨by rfl, fun w' hw' => ?_⟩
                go_simp
                all_goals rfl
              try simp only [Act.put, List.setIfInBounds_toArray, List.set_cons_zero, List.set_cons_succ]
              refine later_take (i := 5) (d := 132) (v := ?_) (by kernel_rfl) (by kernel_rfl) (by kernel_rfl) (by kernel_rfl) (fun _ _ _ h => h) (fun oi hoi => ?_) ?_
              rotate_left
              · simp at hoi
                subst hoi
                refine ⟨by rfl, fun w' hw' => ?_⟩
                have hx := ((unhide R).below hw').form
                obtain ⟨ax, cx', qx, _, _, qy⟩ := hx
                rw [HCL.out] at qx qy
                simp only [Value.slice.injEq] at qx
                obtain ⟨rfl, _, rfl⟩ := qx
                obtain ⟨a', ha', hcx⟩ := qy j (by omega)
                cases ha'
                rw [HCJ.out] at hcx
                go_simp
                all_goals rfl
              try simp only [Act.put, List.setIfInBounds_toArray, List.set_cons_zero, List.set_cons_succ]
              refine later_take (i := 6) (d := 133) (v := ?_) (by kernel_rfl) (by kernel_rfl) (by kernel_rfl) (by kernel_rfl) (fun _ _ _ h => h) (fun oi hoi => ?_) ?_
              rotate_left
              · simp at hoi
                subst hoi
                refine ⟨by rfl, fun w' hw' => ?_⟩
                go_simp
                all_goals rfl
              try simp only [Act.put, List.setIfInBounds_toArray, List.set_cons_zero, List.set_cons_succ]
              refine later_take (i := 7) (d := 134) (v := ?_) (by kernel_rfl) (by kernel_rfl) (by kernel_rfl) (by kernel_rfl) (fun _ _ _ h => h) (fun oi hoi => ?_) ?_
              rotate_left
              · simp at hoi
                subst hoi
                refine ⟨by rfl, fun w' hw' => ?_⟩
                have hx := ((unhide X).row.below hw').form
                obtain ⟨ax, cx, qx, _, _, qy⟩ := hx
                rw [HXL.out] at qx qy
                simp only [Value.slice.injEq] at qx
                obtain ⟨rfl, _, rfl⟩ := qx
                obtain ⟨a', ha', hcx⟩ := qy pq (by omega)
                cases ha'
                rw [HXK.out] at hcx
                go_simp
                all_goals rfl
              try simp only [Act.put, List.setIfInBounds_toArray, List.set_cons_zero, List.set_cons_succ]
              refine later_take (i := 8) (d := 135) (v := ?_) (by kernel_rfl) (by kernel_rfl) (by kernel_rfl) (by kernel_rfl) (fun _ _ _ h => h) (fun oi hoi => ?_) ?_
              rotate_left
              · simp at hoi
                subst hoi
                refine ⟨by rfl, fun w' hw' => ?_⟩
                go_simp
                all_goals rfl
              try simp only [Act.put, List.setIfInBounds_toArray, List.set_cons_zero, List.set_cons_succ]
              refine later_one (i := 9) (by kernel_rfl) (fun oi K hoi hK => ?_)
              simp at hoi
              subst hoi
              refine ⟨by rfl, ?_⟩
              go_simp
              refine (iMakKey_any sc _ HSC.out).mono ?_
              rintro e wk ⟨rfl, hb⟩
              go_simp
              refine hK.out _ _ hb ?_
              clear hK
              replace T := hide ((unhide T).below hb)
              replace X := hide ((unhide X).below hb)
              replace R := hide ((unhide R).below hb)
              replace HB := hide (HB.out.trans (hb.mono HB.out.size))
              clear hb
              try simp only [Act.put, List.setIfInBounds_toArray, List.set_cons_zero, List.set_cons_succ]
              refine later_take (i := 10) (d := 137) (v := ?_) (by kernel_rfl) (by kernel_rfl) (by kernel_rfl) (by kernel_rfl) (fun _ _ _ h => h) (fun oi hoi => ?_) ?_
              rotate_left
              · simp at hoi
                subst hoi
                refine ⟨by rfl, fun w' hw' => ?_⟩
                go_simp
                all_goals rfl
              try simp only [Act.put, List.setIfInBounds_toArray, List.set_cons_zero, List.set_cons_succ]
              refine later_done (by kernel_rfl) ?_ _
              go_wp2_with fail
              refine (iMakNext_any sc _ HSC.out).mono ?_
              rintro e wm ⟨rfl, hb⟩
              replace T := hide ((unhide T).below hb)
              replace X := hide ((unhide X).below hb)
              replace R := hide ((unhide R).below hb)
              replace HB := hide (HB.out.trans (hb.mono HB.out.size))
              clear hb
              go_wp2_with fail
              go_roundw
              case rel => exact ⟨j + 1, by omega, by simp, by rw [HNX.out], T, X, R, HB⟩
              case measure => simp [intOf]; omega
            · have hlt2 : decide ((j : Int) < 4) = false := by simp; omega
              obtain rfl : j = 4 := by omega
              generalize nextN s 4 = sc
              rw [show ((4 : Nat) : Int) = 4 from rfl] at *
              go_wp2_with fail
              try rw [show ((4 : Nat) : Int) = 4 from rfl]
              generalize wr = wL2 at *
              go_loopw [17] (fun i wr => ∃ k : Nat, k ≤ 15 ∧ i = .int .i64 (k : Int) ∧ Hid (TV w2.heap.size (.slice (some gT) 15 kp) xs wr) ∧ Hid (TV w4.heap.size (.slice (some gX) 15 kp4) XX wr) ∧ Hid (IRow wr (.slice (some go) 4 cx) CC) ∧ Hid (Below w.heap.size w wr)) (fun i _ => 15 - (intOf i).toNat)
              case atStart => exact ⟨0, by omega, rfl, T, X, R, HB⟩
              case round =>
                clear T X R HB
                obtain ⟨k, hk, rfl, T, X, R, HB⟩ := hrel
                by_cases hlk : k < 15
                · have hlk2 : (k : Int) < 15 := by omega
                  have i3 : IntKind.i64.wrap ((k : Int) + 1) = (k : Int) + 1 := by simp [IntKind.wrap, IntKind.bits, IntKind.signed]; omega
                  replace T := hide (unhide T).drew
                  replace X := hide (unhide X).drew
                  replace R := hide (unhide R).drew
                  replace HB := hide HB.out.drew
                  cases hkn : decide ((k : Int) ∈ CC) with
                  | true =>
                    have HKN := hide hkn
                    clear hkn
                    go_wp2_with fail
                    refine wp_region_later (by kernel_rfl) ?_
                    refine later_take (i := 0) (d := 144) (v := ?_) (by kernel_rfl) (by kernel_rfl) (by kernel_rfl) (by kernel_rfl) (fun _ _ _ h => h) (fun oi hoi => ?_) ?_
                    rotate_left
                    · simp at hoi
                      subst hoi
                      refine ⟨by rfl, fun w' hw' => ?_⟩
                      go_simp
                      all_goals rfl
                    try simp only [Act.put, List.setIfInBounds_toArray, List.set_cons_zero, List.set_cons_succ]
                    refine later_take (i := 1) (d := 145) (v := ?_) (by kernel_rfl) (by kernel_rfl) (by kernel_rfl) (by kernel_rfl) (fun _ _ _ h => h) (fun oi hoi => ?_) ?_
                    rotate_left
                    · simp at hoi
                      subst hoi
                      refine ⟨by rfl, fun w' hw' => ?_⟩
                      go_simp
                      all_goals rfl
                    try simp only [Act.put, List.setIfInBounds_toArray, List.set_cons_zero, List.set_cons_succ]
                    refine later_one (i := 2) (by kernel_rfl) (fun oi K hoi hK => ?_)
                    simp at hoi
                    subst hoi
                    refine ⟨by rfl, ?_⟩
                    go_simp
                    refine (keIn_any _ CC (k : Int) _ (unhide R)).mono ?_
                    rw [HKN.out]
                    rintro e wk ⟨rfl, rfl⟩
                    go_simp
                    refine hK.out _ _ (Below.refl _ _) ?_
                    clear hK
                    try simp only [Act.put, List.setIfInBounds_toArray, List.set_cons_zero, List.set_cons_succ]
                    refine later_take (i := 3) (d := 147) (v := ?_) (by kernel_rfl) (by kernel_rfl) (by kernel_rfl) (by kernel_rfl) (fun _ _ _ h => h) (fun oi hoi => ?_) ?_
                    rotate_left
                    · simp at hoi
                      subst hoi
                      refine ⟨by rfl, fun w' hw' => ?_⟩
                      go_simp
                      all_goals rfl
                    try simp only [Act.put, List.setIfInBounds_toArray, List.set_cons_zero, List.set_cons_succ]
                    refine later_take (i := 4) (d := 148) (v := ?_) (by kernel_rfl) (by kernel_rfl) (by kernel_rfl) (by kernel_rfl) (fun _ _ _ h => h) (fun oi hoi => ?_) ?_
                    rotate_left
                    · simp at hoi
                      subst hoi
                      refine ⟨by rfl, fun w' hw' => ?_⟩
                      go_simp
                      all_goals rfl
                    try simp only [Act.put, List.setIfInBounds_toArray, List.set_cons_zero, List.set_cons_succ]
                    refine later_skip (i := 5) (d := 149) (by kernel_rfl) (by kernel_rfl) (by kernel_rfl) (by kernel_rfl) (fun _ _ _ h => h) (by rfl) ?_
                    try simp only [Act.put, List.setIfInBounds_toArray, List.set_cons_zero, List.set_cons_succ]
                    refine later_skip (i := 6) (d := 150) (by kernel_rfl) (by kernel_rfl) (by kernel_rfl) (by kernel_rfl) (fun _ _ _ h => h) (by rfl) ?_
                    try simp only [Act.put, List.setIfInBounds_toArray, List.set_cons_zero, List.set_cons_succ]
                    refine later_skip (i := 7) (d := 151) (by kernel_rfl) (by kernel_rfl) (by kernel_rfl) (by kernel_rfl) (fun _ _ _ h => h) (by rfl) ?_
                    try simp only [Act.put, List.setIfInBounds_toArray, List.set_cons_zero, List.set_cons_succ]
                    refine later_skip (i := 8) (d := 152) (by kernel_rfl) (by kernel_rfl) (by kernel_rfl) (by kernel_rfl) (fun _ _ _ h => h) (by rfl) ?_
                    try simp only [Act.put, List.setIfInBounds_toArray, List.set_cons_zero, List.set_cons_succ]
                    refine later_skip (i := 9) (d := 153) (by kernel_rfl) (by kernel_rfl) (by kernel_rfl) (by kernel_rfl) (fun _ _ _ h => h) (by rfl) ?_
                    try simp only [Act.put, List.setIfInBounds_toArray, List.set_cons_zero, List.set_cons_succ]
                    refine later_skip (i := 10) (d := 154) (by kernel_rfl) (by kernel_rfl) (by kernel_rfl) (by kernel_rfl) (fun _ _ _ h => h) (by rfl) ?_
                    try simp only [Act.put, List.setIfInBounds_toArray, List.set_cons_zero, List.set_cons_succ]
                    refine later_skip (i := 11) (d := 155) (by kernel_rfl) (by kernel_rfl) (by kernel_rfl) (by kernel_rfl) (fun _ _ _ h => h) (by rfl) ?_
                    try simp only [Act.put, List.setIfInBounds_toArray, List.set_cons_zero, List.set_cons_succ]
                    refine later_skip (i := 12) (d := 156) (by kernel_rfl) (by kernel_rfl) (by kernel_rfl) (by kernel_rfl) (fun _ _ _ h => h) (by rfl) ?_
                    try simp only [Act.put, List.setIfInBounds_toArray, List.set_cons_zero, List.set_cons_succ]
                    refine later_skip (i := 13) (d := 157) (by kernel_rfl) (by kernel_rfl) (by kernel_rfl) (by kernel_rfl) (fun _ _ _ h => h) (by rfl) ?_
                    try simp only [Act.put, List.setIfInBounds_toArray, List.set_cons_zero, List.set_cons_succ]
                    refine later_skip (i := 14) (d := 158) (by kernel_rfl) (by kernel_rfl) (by kernel_rfl) (by kernel_rfl) (fun _ _ _ h => h) (by rfl) ?_
                    try simp only [Act.put, List.setIfInBounds_toArray, List.set_cons_zero, List.set_cons_succ]
                    refine later_skip (i := 15) (d := 159) (by kernel_rfl) (by kernel_rfl) (by kernel_rfl) (by kernel_rfl) (fun _ _ _ h => h) (by rfl) ?_
                    try simp only [Act.put, List.setIfInBounds_toArray, List.set_cons_zero, List.set_cons_succ]
                    refine later_take (i := 16) (d := 160) (v := ?_) (by kernel_rfl) (by kernel_rfl) (by kernel_rfl) (by kernel_rfl) (fun _ _ _ h => h) (fun oi hoi => ?_) ?_
                    rotate_left
                    · simp at hoi
                      subst hoi
                      refine ⟨by rfl, fun w' hw' => ?_⟩
                      go_simp
                      all_goals rfl
                    try simp only [Act.put, List.setIfInBounds_toArray, List.set_cons_zero, List.set_cons_succ]
                    refine later_done (by kernel_rfl) ?_ _
                    go_wp2_with fail
                    go_roundw
                    case rel => exact ⟨k + 1, by omega, by simp, T, X, R, HB⟩
                    case measure => simp [intOf]; omega
                  | false =>
                    have hxk := HOUT.out k hlk hkn
                    have HKN := hide hkn
                    clear hkn
                    obtain ⟨y, hy⟩ : ∃ y, xs.getD k ByteArray.empty = y := ⟨_, rfl⟩
                    rw [hy] at hxk
                    have HXK := hide hxk
                    have HTK := hide hy
                    clear hxk hy
                    go_wp2_with fail
                    refine wp_region_later (by kernel_rfl) ?_
                    refine later_take (i := 0) (d := 144) (v := ?_) (by kernel_rfl) (by kernel_rfl) (by kernel_rfl) (by kernel_rfl) (fun _ _ _ h => h) (fun oi hoi => ?_) ?_
                    rotate_left
                    · simp at hoi
                      subst hoi
                      refine ⟨by rfl, fun w' hw' => ?_⟩
                      go_simp
                      all_goals rfl
                    try simp only [Act.put, List.setIfInBounds_toArray, List.set_cons_zero, List.set_cons_succ]
                    refine later_take (i := 1) (d := 145) (v := ?_) (by kernel_rfl) (by kernel_rfl) (by kernel_rfl) (by kernel_rfl) (fun _ _ _ h => h) (fun oi hoi => ?_) ?_
                    rotate_left
                    · simp at hoi
                      subst hoi
                      refine ⟨by rfl, fun w' hw' => ?_⟩
                      go_simp
                      all_goals rfl
                    try simp only [Act.put, List.setIfInBounds_toArray, List.set_cons_zero, List.set_cons_succ]
                    refine later_one (i := 2) (by kernel_rfl) (fun oi K hoi hK => ?_)
                    simp at hoi
                    subst hoi
                    refine ⟨by rfl, ?_⟩
                    go_simp
                    refine (keIn_any _ CC (k : Int) _ (unhide R)).mono ?_
                    rw [HKN.out]
                    rintro e wk ⟨rfl, rfl⟩
                    go_simp
                    refine hK.out _ _ (Below.refl _ _) ?_
                    clear hK
                    try simp only [Act.put, List.setIfInBounds_toArray, List.set_cons_zero, List.set_cons_succ]
                    refine later_take (i := 3) (d := 147) (v := ?_) (by kernel_rfl) (by kernel_rfl) (by kernel_rfl) (by kernel_rfl) (fun _ _ _ h => h) (fun oi hoi => ?_) ?_
                    rotate_left
                    · simp at hoi
                      subst hoi
                      refine ⟨by rfl, fun w' hw' => ?_⟩
                      go_simp
                      all_goals rfl
                    try simp only [Act.put, List.setIfInBounds_toArray, List.set_cons_zero, List.set_cons_succ]
                    refine later_take (i := 4) (d := 148) (v := ?_) (by kernel_rfl) (by kernel_rfl) (by kernel_rfl) (by kernel_rfl) (fun _ _ _ h => h) (fun oi hoi => ?_) ?_
                    rotate_left
                    · simp at hoi
                      subst hoi
                      refine ⟨by rfl, fun w' hw' => ?_⟩
                      go_simp
                      all_goals rfl
                    try simp only [Act.put, List.setIfInBounds_toArray, List.set_cons_zero, List.set_cons_succ]
                    refine later_take (i := 5) (d := 149) (v := ?_) (by kernel_rfl) (by kernel_rfl) (by kernel_rfl) (by kernel_rfl) (fun _ _ _ h => h) (fun oi hoi => ?_) ?_
                    rotate_left
                    · simp at hoi
                      subst hoi
                      refine ⟨by rfl, fun w' hw' => ?_⟩
                      go_simp
                      all_goals rfl
                    try simp only [Act.put, List.setIfInBounds_toArray, List.set_cons_zero, List.set_cons_succ]
                    refine later_take (i := 6) (d := 150) (v := ?_) (by kernel_rfl) (by kernel_rfl) (by kernel_rfl) (by kernel_rfl) (fun _ _ _ h => h) (fun oi hoi => ?_) ?_
                    rotate_left
                    · simp at hoi
                      subst hoi
                      refine ⟨by rfl, fun w' hw' => ?_⟩
                      have hx := (box_below (unhide X).box hw').cell
                      go_simp
                      all_goals rfl
                    try simp only [Act.put, List.setIfInBounds_toArray, List.set_cons_zero, List.set_cons_succ]
                    refine later_take (i := 7) (d := 151) (v := ?_) (by kernel_rfl) (by kernel_rfl) (by kernel_rfl) (by kernel_rfl) (fun _ _ _ h => h) (fun oi hoi => ?_) ?_
                    rotate_left
                    · simp at hoi
                      subst hoi
                      refine ⟨by rfl, fun w' hw' => ?_⟩
                      go_simp
                      all_goals rfl
                    try simp only [Act.put, List.setIfInBounds_toArray, List.set_cons_zero, List.set_cons_succ]
                    refine later_take (i := 8) (d := 152) (v := ?_) (by kernel_rfl) (by kernel_rfl) (by kernel_rfl) (by kernel_rfl) (fun _ _ _ h => h) (fun oi hoi => ?_) ?_
                    rotate_left
                    · simp at hoi
                      subst hoi
                      refine ⟨by rfl, fun w' hw' => ?_⟩
                      go_simp
                      all_goals rfl
                    try simp only [Act.put, List.setIfInBounds_toArray, List.set_cons_zero, List.set_cons_succ]
                    refine later_take (i := 9) (d := 153) (v := ?_) (by kernel_rfl) (by kernel_rfl) (by kernel_rfl) (by kernel_rfl) (fun _ _ _ h => h) (fun oi hoi => ?_) ?_
                    rotate_left
                    · simp at hoi
                      subst hoi
                      refine ⟨by rfl, fun w' hw' => ?_⟩
                      have hx := ((unhide X).row.below hw').form
                      obtain ⟨ax, cx, qx, _, _, qy⟩ := hx
                      rw [HXL.out] at qx qy
                      simp only [Value.slice.injEq] at qx
                      obtain ⟨rfl, _, rfl⟩ := qx
                      obtain ⟨a', ha', hcx⟩ := qy k (by omega)
                      cases ha'
                      rw [HXK.out] at hcx
                      go_simp
                      all_goals rfl
                    try simp only [Act.put, List.setIfInBounds_toArray, List.set_cons_zero, List.set_cons_succ]
                    refine later_take (i := 10) (d := 154) (v := ?_) (by kernel_rfl) (by kernel_rfl) (by kernel_rfl) (by kernel_rfl) (fun _ _ _ h => h) (fun oi hoi => ?_) ?_
                    rotate_left
                    · simp at hoi
                      subst hoi
                      refine ⟨by rfl, fun w' hw' => ?_⟩
                      go_simp
                      all_goals rfl
                    try simp only [Act.put, List.setIfInBounds_toArray, List.set_cons_zero, List.set_cons_succ]
                    refine later_take (i := 11) (d := 155) (v := ?_) (by kernel_rfl) (by kernel_rfl) (by kernel_rfl) (by kernel_rfl) (fun _ _ _ h => h) (fun oi hoi => ?_) ?_
                    rotate_left
                    · simp at hoi
                      subst hoi
                      refine ⟨by rfl, fun w' hw' => ?_⟩
                      have hx := (box_below (unhide T).box hw').cell
                      go_simp
                      all_goals rfl
                    try simp only [Act.put, List.setIfInBounds_toArray, List.set_cons_zero, List.set_cons_succ]
                    refine later_take (i := 12) (d := 156) (v := ?_) (by kernel_rfl) (by kernel_rfl) (by kernel_rfl) (by kernel_rfl) (fun _ _ _ h => h) (fun oi hoi => ?_) ?_
                    rotate_left
                    · simp at hoi
                      subst hoi
                      refine ⟨by rfl, fun w' hw' => ?_⟩
                      go_simp
                      all_goals rfl
                    try simp only [Act.put, List.setIfInBounds_toArray, List.set_cons_zero, List.set_cons_succ]
                    refine later_take (i := 13) (d := 157) (v := ?_) (by kernel_rfl) (by kernel_rfl) (by kernel_rfl) (by kernel_rfl) (fun _ _ _ h => h) (fun oi hoi => ?_) ?_
                    rotate_left
                    · simp at hoi
                      subst hoi
                      refine ⟨by rfl, fun w' hw' => ?_⟩
                      go_simp
                      all_goals rfl
                    try simp only [Act.put, List.setIfInBounds_toArray, List.set_cons_zero, List.set_cons_succ]
                    refine later_take (i := 14) (d := 158) (v := ?_) (by kernel_rfl) (by kernel_rfl) (by kernel_rfl) (by kernel_rfl) (fun _ _ _ h => h) (fun oi hoi => ?_) ?_
                    rotate_left
                    · simp at hoi
                      subst hoi
                      refine ⟨by rfl, fun w' hw' => ?_⟩
                      have hx := ((unhide T).row.below hw').form
                      obtain ⟨ax, cx, qx, _, _, qy⟩ := hx
                      rw [HTL.out] at qx qy
                      simp only [Value.slice.injEq] at qx
                      obtain ⟨rfl, _, rfl⟩ := qx
                      obtain ⟨a', ha', hcx⟩ := qy k (by omega)
                      cases ha'
                      rw [HTK.out] at hcx
                      go_simp
                      all_goals rfl
                    try simp only [Act.put, List.setIfInBounds_toArray, List.set_cons_zero, List.set_cons_succ]
                    refine later_take (i := 15) (d := 159) (v := ?_) (by kernel_rfl) (by kernel_rfl) (by kernel_rfl) (by kernel_rfl) (fun _ _ _ h => h) (fun oi hoi => ?_) ?_
                    rotate_left
                    · simp at hoi
                      subst hoi
                      refine ⟨by rfl, fun w' hw' => ?_⟩
                      go_simp
                      all_goals rfl
                    try simp only [Act.put, List.setIfInBounds_toArray, List.set_cons_zero, List.set_cons_succ]
                    refine later_take (i := 16) (d := 160) (v := ?_) (by kernel_rfl) (by kernel_rfl) (by kernel_rfl) (by kernel_rfl) (fun _ _ _ h => h) (fun oi hoi => ?_) ?_
                    rotate_left
                    · simp at hoi
                      subst hoi
                      refine ⟨by rfl, fun w' hw' => ?_⟩
                      go_simp
                      all_goals rfl
                    try simp only [Act.put, List.setIfInBounds_toArray, List.set_cons_zero, List.set_cons_succ]
                    refine later_done (by kernel_rfl) ?_ _
                    go_wp2_with fail
                    go_roundw
                    case rel => exact ⟨k + 1, by omega, by simp, T, X, R, HB⟩
                    case measure => simp [intOf]; omega
                · have hlk2 : decide ((k : Int) < 15) = false := by simp; omega
                  have l1 := (unhide X).box.cell
                  go_wp2_with fail
                  refine (iTreOk_any _ XX _ (unhide X).row (unhide HMX)).mono ?_
                  rw [HOKX.out]
                  rintro e wa ⟨rfl, hb⟩
                  replace X := hide ((unhide X).below hb)
                  replace HB := hide (HB.out.trans (hb.mono HB.out.size))
                  clear hb
                  clear l1
                  have l1 := (unhide X).box.cell
                  go_wp2_with fail
                  refine (iTreIn_any _ XX _ (unhide X).row (unhide HMX)).mono ?_
                  rintro e wb ⟨ub, rfl, hob, hb⟩
                  have I := hide hob.irow
                  obtain ⟨uo, uc, hub⟩ := row_form' hob
                  subst hub
                  clear hob
                  replace HB := hide (HB.out.trans (hb.mono HB.out.size))
                  clear hb l1
                  go_wp2_with fail
                  refine (keIn_any _ (inRes XX) p _ (unhide I)).mono ?_
                  rw [HINX.out]
                  rintro e wd ⟨rfl, rfl⟩
                  go_wp2_with fail
                  go_ret
                  exact ⟨rfl, unhide HB⟩

set_option maxRecDepth 100000 in
theorem lifted_FnTreSet (os : Os) (started : os.Started) (H : Type) (enc : TypeId × Value → H) :
    ReturnsInHanded {} Try.checked os 3 .any (Rows.fnTreSetSpec.pre6 enc Try.prog Try.f3 Rows.fnTreSetRow.domain false) (Rows.fnTreSetSpec.post enc Try.prog Try.f3 false true false false) := by
  refine returnsInHanded_of_change (C := Try.checked) own started (by kernel_rfl) Try.func3
    (ChangeSpec.witness6 (enc := enc) (C := Try.checked) false ⟨#[], #[.slice none 0 0, .slice none 0 0], []⟩ 8 (by kernel_rfl) (by kernel_rfl) (by kernel_rfl) (by kernel_rfl)) ?_
  intro W base args ds gs before hval0 hW hcnd _
  have hval : ∀ (j : Nat) t v, Try.f3.params[j]? = some t → args[j]? = some v → Value.okWide Try.prog W .any base t v := hval0
  have hW' := hW
  obtain ⟨p, q, hA0, hV, rfl, hfz, hnd⟩ := hW
  have hA : DataW.TrodAll enc Try.prog W 0 (fun _ => true) true Try.f3.params.toList args.toList ds p := hA0
  rw [Try.params3] at hA hval
  obtain ⟨v0, vs0, d0, ds0, p0, q0, hargs, rfl, rfl, h0, r0⟩ := trodAll_cons hA
  obtain ⟨v1, vs1, d1, ds1, p1, q1, rfl, rfl, rfl, h1, r1⟩ := trodAll_cons r0
  obtain ⟨rfl, rfl, rfl⟩ := trodAll_nil r1
  obtain rfl : args = #[v0, v1] := by cases args; simp_all
  obtain ⟨rfl, rfl⟩ := trodVars_none hV
  obtain ⟨a0, len0, cap0, rfl⟩ := okWide_slice Try.underlying22 (hval 0 22 v0 rfl rfl)
  have k0 := h0
  have lt0 : ∀ x ∈ p0, x.block < W.heap.size := by obtain ⟨m, hm⟩ := k0; exact DataW.trod_lt m _ _ _ hm
  obtain ⟨z0, w0⟩ : ∃ zs, IsRow .u8 W a0 len0 cap0 zs := by
    obtain ⟨fuel, hf⟩ := h0
    rcases open_ints Try.underlying22 Try.underlying5 (by kernel_rfl) hf with ⟨hcs, _⟩ | ⟨x, l, c, zs, hcs, _, hl, hm, hz, _, hcell, hwz⟩
    · simp [Value.cells] at hcs
      obtain ⟨rfl, rfl, rfl⟩ := hcs
      exact ⟨[], .inl ⟨rfl, rfl, rfl, rfl⟩⟩
    · simp [Value.cells] at hcs
      obtain ⟨rfl, rfl, rfl⟩ := hcs
      exact ⟨zs, .inr ⟨_, rfl, hl, hm, by simpa using hz, hcell, hwz⟩⟩
  obtain ⟨a1, len1, cap1, rfl⟩ := okWide_slice Try.underlying22 (hval 1 22 v1 rfl rfl)
  have k1 := h1
  have lt1 : ∀ x ∈ p1, x.block < W.heap.size := by obtain ⟨m, hm⟩ := k1; exact DataW.trod_lt m _ _ _ hm
  obtain ⟨z1, w1⟩ : ∃ zs, IsRow .u8 W a1 len1 cap1 zs := by
    obtain ⟨fuel, hf⟩ := h1
    rcases open_ints Try.underlying22 Try.underlying5 (by kernel_rfl) hf with ⟨hcs, _⟩ | ⟨x, l, c, zs, hcs, _, hl, hm, hz, _, hcell, hwz⟩
    · simp [Value.cells] at hcs
      obtain ⟨rfl, rfl, rfl⟩ := hcs
      exact ⟨[], .inl ⟨rfl, rfl, rfl, rfl⟩⟩
    · simp [Value.cells] at hcs
      obtain ⟨rfl, rfl, rfl⟩ := hcs
      exact ⟨zs, .inr ⟨_, rfl, hl, hm, by simpa using hz, hcell, hwz⟩⟩
  clear hA0 hval0
  refine (walk_FnTreSet a0 len0 cap0 z0 a1 len1 cap1 z1 W w0 w1).mono fun e W' ⟨he, bel⟩ => ?_
  subst he
  exact ⟨_, rfl, _, _, _, [], _, [], hW', trodAll_mk1 (shut_bool Try.underlying4 _), (trodAll_cons_mk (Below.trod laidOut (by kernel_rfl) (of_decide_eq_true (by kernel_rfl)) k0 bel lt0) (trodAll_cons_mk (Below.trod laidOut (by kernel_rfl) (of_decide_eq_true (by kernel_rfl)) k1 bel lt1) trodAll_mk0)), rfl, bel.frame _, fun h => by cases h⟩

theorem fnTreSet_holds : Rows.FnTreSetSaid :=
  OpenClaim.holds_of_wide 3 Try.f3 rfl rfl rfl rfl rfl rfl rfl ⟨rfl, rfl, rfl, rfl, rfl⟩ rfl rfl rfl rfl rfl (by kernel_rfl) Try.func3 (by kernel_rfl)
    (of_decide_eq_true (by kernel_rfl)) (by unfold Func.isWrapper; first | (rw [if_pos (by decide +kernel)]; kernel_rfl) | (rw [if_neg (by decide +kernel)]; exact ⟨rfl, rfl⟩))
    (fun os started H enc _ => lifted_FnTreSet os started H enc)

#print axioms fnTreSet_holds
end Go.Proofs.Ytjijfcollmjljaa
