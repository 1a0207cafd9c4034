/-
  Proved: at every two codes the law FnTreTwo returns true (TreSet of one, and then of another one, answers as the specification's; all places of the other one and above have its keys; all others have those that they had behind the first), and nothing that was there is written. No condition.
-/
import Derived.Test.YtjmnfdfnndoffaaFnTreTwoB1
import Derived.Test.YtjmnfdfnndoffaaFnTreTwoB6
import Derived.Test.YtjmnfdfnndoffaaFnTreTwoB7
import Derived.Test.YtjmnfdfnndoffaaFnTreTwoB9
import Derived.Test.YtjmnfdfnndoffaaFnTreTwoB10
namespace Go.Proofs.Ytjmnfdfnndoffaa
open Go.ChangeShapes Go.WideShapes Go.ChangeAt Go.RowKit
open Go.ChangeMaps (open_string shut_string)
set_option linter.unusedVariables false

theorem leaf_nat (k : Nat) (h : k < 8) : leafOf (k : Int) = ((7 + k : Nat) : Int) := by unfold leafOf; rw [if_pos (by omega)]; omega
theorem mem_chain (k q : Nat) (hk : k < 8) : (q : Int) ∈ chainOf (leafOf (k : Int)) ↔ q ∈ (7 + k) :: ups (7 + k) := by
  rw [leaf_nat k hk, chain_nat _ (by omega), List.mem_map]
  constructor
  · rintro ⟨z, hz, e⟩
    obtain rfl : z = q := by omega
    exact hz
  · intro h; exact ⟨q, h, rfl⟩
/-- What both leave: the second one's keys at its places, the first one's at all others. -/
theorem two_heart {xs : List ByteArray} {a b : Int} {s u : ByteArray} (h : setRes (setRes xs a s) b u ≠ []) :
    (0 ≤ b ∧ b ≤ 7) ∧ (setRes xs a s).length = 15 ∧ (setRes (setRes xs a s) b u).length = 15 ∧ (setRes xs b u).length = 15 ∧
    ∀ q, q < 15 → (setRes (setRes xs a s) b u).getD q ByteArray.empty = if (q : Int) ∈ chainOf (leafOf b) then (setRes xs b u).getD q ByteArray.empty else (setRes xs a s).getD q ByteArray.empty := by
  by_cases hy : (treOk (setRes xs a s) = true ∧ 0 ≤ b ∧ b ≤ 7) ∧ maySet u = true
  · by_cases hx : (treOk xs = true ∧ 0 ≤ a ∧ a ≤ 7) ∧ maySet s = true
    · obtain ⟨k, rfl⟩ : ∃ k : Nat, a = (k : Int) := ⟨a.toNat, by omega⟩
      obtain ⟨l, rfl⟩ : ∃ k : Nat, b = (k : Int) := ⟨b.toNat, by omega⟩
      have e1 : setRes xs (k : Int) s = setKeys xs k s := setRes_yes hx.1.1 (by omega) hx.2
      have e3 : setRes xs (l : Int) u = setKeys xs l u := setRes_yes hx.1.1 (by omega) hy.2
      have e2 := setRes_yes (k := l) hy.1.1 (by omega) hy.2
      have hl := (treOk_iff.1 hx.1.1).1
      rw [e2, e1, e3]
      refine ⟨by omega, by rw [setKeys_len, hl], by rw [setKeys_len, setKeys_len, hl], by rw [setKeys_len, hl], fun q hq => ?_⟩
      have f := fill_two ((7 + k) :: ups (7 + k)) ((7 + l) :: ups (7 + l)) xs s u q
      by_cases m : (q : Int) ∈ chainOf (leafOf (l : Int))
      · rw [if_pos m]; rw [if_pos ((mem_chain l q (by omega)).1 m)] at f; exact f
      · rw [if_neg m]; rw [if_neg (fun x => m ((mem_chain l q (by omega)).2 x))] at f; exact f
    · rw [setRes_no hx] at hy
      exact absurd hy.1.1 (by decide)
  · exact absurd (setRes_no hy) h

set_option maxRecDepth 100000 in
set_option maxHeartbeats 8000000 in
theorem walk_FnTreTwo (a0 : Option Addr) (len0 cap0 : Nat) (z0 : List Int) (a1 : Option Addr) (len1 cap1 : Nat) (z1 : List Int) (w : World) (w0 : IsRow .u8 w a0 len0 cap0 z0) (w1 : IsRow .u8 w a1 len1 cap1 z1) :
    Calls Try.prog 4 #[.slice a0 len0 cap0, .slice a1 len1 cap1] w fun e w' => e = .returned (.bool true) ∧ Below w.heap.size w w' := by
  have hR := hide w0
  have hS := hide w1
  clear w0 w1
  by_cases h : (1048576 : Int) < (len0 : Int)
  · go_enter Try.func4, Try.ntmps4
    go_wp2_with fail
    go_ret
    exact ⟨rfl, Below.refl _ _⟩
  have h2 : decide ((1048576 : Int) < (len0 : Int)) = false := by simpa using h
  clear h
  by_cases h : (1048576 : Int) < (len1 : Int)
  · go_enter Try.func4, Try.ntmps4
    go_wp2_with fail
    go_ret
    exact ⟨rfl, Below.refl _ _⟩
  have h3 : decide ((1048576 : Int) < (len1 : Int)) = false := by simpa using h
  clear h
  obtain ⟨i0, hi, hz0, hz1, hz2⟩ := info_parts info_int2
  have hI := hide (And.intro hi (And.intro hz0 (And.intro hz1 hz2)))
  clear hi hz0 hz1 hz2
  go_enter Try.func4, Try.ntmps4
  go_wp2_with fail
  refine (DrawTreSet_any a0 len0 cap0 z0 _ (unhide hR)).mono ?_
  rintro e w1 ⟨v, xs, a, s, rfl, hG, ha1, ha2, hsz, hb1⟩
  obtain ⟨ao, kp, rfl, _, _, _⟩ := hG.row.1.form
  have HM := hide hG.max
  have T1 := hide (TV.new hG.row.1)
  have HB1 := hide (hb1.trans ((below_new w1 (.cells #[.slice ao xs.length kp] 25)).mono hb1.size))
  have hS1 := hide (IsRow.belowR (unhide hS) HB1.out)
  have HSZ : Hid (s.size ≤ maxLen) := by show _ ≤ _; unfold maxLen; omega
  clear hG hb1 hR hS h2 ha1 ha2 hsz
  go_wp2_with fail
  refine (DrawTreSet_any a1 len1 cap1 z1 _ (unhide hS1)).mono ?_
  rintro e w2 ⟨v2, ys, b, u, rfl, hG2, hc1, hc2, husz, hb2⟩
  obtain ⟨ao2, kp2, rfl, _, _, _⟩ := hG2.row.1.form
  have T2 := hide ((unhide T1).below (hb2.trans ((below_new w2 (.cells #[.slice ao2 ys.length kp2] 25)).mono hb2.size)))
  have HB2 := hide (HB1.out.trans ((hb2.trans ((below_new w2 (.cells #[.slice ao2 ys.length kp2] 25)).mono hb2.size)).mono HB1.out.size))
  have HUZ : Hid (u.size ≤ maxLen) := by show _ ≤ _; unfold maxLen; omega
  clear hG2 hb2 hS1 h3 HB1 T1 hc1 hc2 husz
  have l1 := (unhide T2).box.cell
  go_wp2_with fail
  refine (iTreSet_any _ xs a s _ (unhide T2).row (unhide HM) HSZ.out).mono ?_
  rintro e w3 ⟨x, rfl, ho3, hb3⟩
  obtain ⟨X, hX⟩ : ∃ X, setRes xs a s = X := ⟨_, rfl⟩
  have HMX := hide (set_small xs a s)
  have HE := two_heart (xs := xs) (a := a) (s := s) (b := b) (u := u)
  rw [hX] at ho3 HMX HE
  have HX := hide hX
  have HH := hide HE
  clear hX HE
  obtain ⟨ao3, kp3, rfl, _, _, _⟩ := ho3.srow.form
  have X3 := hide (TV.new ho3.srow)
  have hb3' := hb3.trans ((below_new w3 (.cells #[.slice ao3 X.length kp3] 25)).mono hb3.size)
  have T3 := hide ((unhide T2).below hb3')
  have HB3 := hide (HB2.out.trans (hb3'.mono HB2.out.size))
  clear hb3 hb3' ho3 HB2 T2 l1
  have l1 := (unhide X3).box.cell
  go_wp2_with fail
  refine (iTreSet_any _ X b u _ (unhide X3).row (unhide HMX) HUZ.out).mono ?_
  rintro e w4 ⟨y, rfl, ho4, hb4⟩
  obtain ⟨Y, hY⟩ : ∃ Y, setRes X b u = Y := ⟨_, rfl⟩
  have HE := unhide HH
  rw [hY] at ho4 HE
  have HY := hide hY
  have HH2 := hide HE
  clear hY HE HH
  obtain ⟨ao4, kp4, rfl, _, _, _⟩ := ho4.srow.form
  have Y4 := hide (TV.new ho4.srow)
  have hb4' := hb4.trans ((below_new w4 (.cells #[.slice ao4 Y.length kp4] 25)).mono hb4.size)
  have T4 := hide ((unhide T3).below hb4')
  have X4 := hide ((unhide X3).below hb4')
  have HB4 := hide (HB3.out.trans (hb4'.mono HB3.out.size))
  clear hb4 hb4' ho4 HB3 T3 X3 l1
  go_wp2_with fail
  have T4d := hide (unhide T4).drew
  have X4d := hide (unhide X4).drew
  have Y4d := hide (unhide Y4).drew
  have HB4d := hide HB4.out.drew
  clear T4 X4 Y4 HB4
  refine wp_region_later (by kernel_rfl) ?_
  refine later_take (i := 0) (d := 45) (v := ?_) (by kernel_rfl) (by kernel_rfl) (by kernel_rfl) (by kernel_rfl) (fun _ _ _ h => h) (fun oi hoi => ?_) ?_
  rotate_left
  · simp at hoi
    subst hoi
    refine ⟨by rfl, fun w' hw' => ?_⟩
    go_simp
    all_goals rfl
  try simp only [Act.put, List.setIfInBounds_toArray, List.set_cons_zero, List.set_cons_succ]
  refine later_take (i := 1) (d := 46) (v := ?_) (by kernel_rfl) (by kernel_rfl) (by kernel_rfl) (by kernel_rfl) (fun _ _ _ h => h) (fun oi hoi => ?_) ?_
  rotate_left
  · simp at hoi
    subst hoi
    refine ⟨by rfl, fun w' hw' => ?_⟩
    have hx := (box_below (unhide Y4d).box hw').cell
    go_simp
    all_goals rfl
  try simp only [Act.put, List.setIfInBounds_toArray, List.set_cons_zero, List.set_cons_succ]
  refine later_take (i := 2) (d := 47) (v := ?_) (by kernel_rfl) (by kernel_rfl) (by kernel_rfl) (by kernel_rfl) (fun _ _ _ h => h) (fun oi hoi => ?_) ?_
  rotate_left
  · simp at hoi
    subst hoi
    refine ⟨by rfl, fun w' hw' => ?_⟩
    have hx := (box_below (unhide T4d).box hw').cell
    go_simp
    all_goals rfl
  try simp only [Act.put, List.setIfInBounds_toArray, List.set_cons_zero, List.set_cons_succ]
  refine later_take (i := 3) (d := 48) (v := ?_) (by kernel_rfl) (by kernel_rfl) (by kernel_rfl) (by kernel_rfl) (fun _ _ _ h => h) (fun oi hoi => ?_) ?_
  rotate_left
  · simp at hoi
    subst hoi
    refine ⟨by rfl, fun w' hw' => ?_⟩
    go_simp
    all_goals rfl
  try simp only [Act.put, List.setIfInBounds_toArray, List.set_cons_zero, List.set_cons_succ]
  refine later_take (i := 4) (d := 49) (v := ?_) (by kernel_rfl) (by kernel_rfl) (by kernel_rfl) (by kernel_rfl) (fun _ _ _ h => h) (fun oi hoi => ?_) ?_
  rotate_left
  · simp at hoi
    subst hoi
    refine ⟨by rfl, fun w' hw' => ?_⟩
    go_simp
    all_goals rfl
  try simp only [Act.put, List.setIfInBounds_toArray, List.set_cons_zero, List.set_cons_succ]
  refine later_take (i := 6) (d := 51) (v := ?_) (by kernel_rfl) (by kernel_rfl) (by kernel_rfl) (by kernel_rfl) (fun _ _ _ h => h) (fun oi hoi => ?_) ?_
  rotate_left
  · simp at hoi
    subst hoi
    refine ⟨by rfl, fun w' hw' => ?_⟩
    go_simp
    all_goals rfl
  try simp only [Act.put, List.setIfInBounds_toArray, List.set_cons_zero, List.set_cons_succ]
  refine later_take (i := 7) (d := 52) (v := ?_) (by kernel_rfl) (by kernel_rfl) (by kernel_rfl) (by kernel_rfl) (fun _ _ _ h => h) (fun oi hoi => ?_) ?_
  rotate_left
  · simp at hoi
    subst hoi
    refine ⟨by rfl, fun w' hw' => ?_⟩
    go_simp
    all_goals rfl
  try simp only [Act.put, List.setIfInBounds_toArray, List.set_cons_zero, List.set_cons_succ]
  refine later_one (i := 5) (by kernel_rfl) (fun oi K hoi hK => ?_)
  simp at hoi
  subst hoi
  refine ⟨by rfl, ?_⟩
  go_simp
  refine (sTreSet_any _ xs a s _ (unhide T4d).row (unhide HM) HSZ.out).mono ?_
  rw [HX.out]
  rintro e w5 ⟨u5, rfl, ho5, hb5⟩
  go_simp
  refine hK.out _ _ hb5 ?_
  clear hK
  have U5 := hide ho5.srow
  clear ho5
  have T5 := hide ((unhide T4d).below hb5)
  have X5 := hide ((unhide X4d).below hb5)
  have Y5 := hide ((unhide Y4d).below hb5)
  have HB5 := hide (HB4d.out.trans (hb5.mono HB4d.out.size))
  clear hb5 HB4d T4d X4d Y4d
  try simp only [Act.put, List.setIfInBounds_toArray, List.set_cons_zero, List.set_cons_succ]
  refine later_one (i := 8) (by kernel_rfl) (fun oi K hoi hK => ?_)
  simp at hoi
  subst hoi
  refine ⟨by rfl, ?_⟩
  go_simp
  refine (sTreSet_any _ X b u _ (unhide U5) (unhide HMX) HUZ.out).mono ?_
  rw [HY.out]
  rintro e w6 ⟨u6, rfl, ho6, hb6⟩
  go_simp
  refine hK.out _ _ hb6 ?_
  clear hK
  have U6 := hide ho6.srow
  clear ho6 U5
  have T6 := hide ((unhide T5).below hb6)
  have X6 := hide ((unhide X5).below hb6)
  have Y6 := hide ((unhide Y5).below hb6)
  have HB6 := hide (HB5.out.trans (hb6.mono HB5.out.size))
  clear hb6 HB5 T5 X5 Y5
  try simp only [Act.put, List.setIfInBounds_toArray, List.set_cons_zero, List.set_cons_succ]
  refine later_take (i := 9) (d := 54) (v := ?_) (by kernel_rfl) (by kernel_rfl) (by kernel_rfl) (by kernel_rfl) (fun _ _ _ h => h) (fun oi hoi => ?_) ?_
  rotate_left
  · simp at hoi
    subst hoi
    refine ⟨by rfl, fun w' hw' => ?_⟩
    have hx := keys_op
    go_simp
    all_goals rfl
  try simp only [Act.put, List.setIfInBounds_toArray, List.set_cons_zero, List.set_cons_succ]
  refine later_one (i := 10) (by kernel_rfl) (fun oi K hoi hK => ?_)
  simp at hoi
  subst hoi
  refine ⟨by rfl, ?_⟩
  go_simp
  refine (keTexts_any _ u6 Y Y _ (unhide Y6).row (unhide U6)).mono ?_
  rw [show decide (Y = Y) = true by simp]
  rintro e w7 ⟨rfl, hb7⟩
  go_simp
  refine hK.out _ _ hb7 ?_
  clear hK
  have T7 := hide ((unhide T6).below hb7)
  have X7 := hide ((unhide X6).below hb7)
  have Y7 := hide ((unhide Y6).below hb7)
  have HB7 := hide (HB6.out.trans (hb7.mono HB6.out.size))
  clear U6
  clear hb7 HB6 T6 X6 Y6
  try simp only [Act.put, List.setIfInBounds_toArray, List.set_cons_zero, List.set_cons_succ]
  refine later_take (i := 11) (d := 56) (v := ?_) (by kernel_rfl) (by kernel_rfl) (by kernel_rfl) (by kernel_rfl) (fun _ _ _ h => h) (fun oi hoi => ?_) ?_
  rotate_left
  · simp at hoi
    subst hoi
    refine ⟨by rfl, fun w' hw' => ?_⟩
    go_simp
    all_goals rfl
  try simp only [Act.put, List.setIfInBounds_toArray, List.set_cons_zero, List.set_cons_succ]
  refine later_done (by kernel_rfl) ?_ _
  have l1 := (unhide Y7).box.cell
  by_cases hY0 : Y.length = 0
  · have hz : ((Y.length : Int) == 0) = true := by rw [hY0]; rfl
    clear hY0
    go_wp2_with fail
    refine (keOk_any _).mono ?_
    rintro e wk ⟨rfl, hbk⟩
    go_wp2_with fail
    go_ret
    exact ⟨rfl, HB7.out.trans (hbk.mono HB7.out.size)⟩
  have hz : ((Y.length : Int) == 0) = false := by rw [beq_eq_false_iff_ne]; omega
  obtain ⟨hbr, hXl, hYl, hZl, hAt⟩ := unhide HH2 (fun e => hY0 (by rw [e]; rfl))
  have HBR := hide hbr
  have HXL := hide hXl
  have HYL := hide hYl
  have HZL := hide hZl
  have HAT := hide hAt
  have hlu : (upOf (leafOf b)).length ≤ 4 := by rw [upOf_chain]; exact chain_len _
  have LA := hide (chain_len (leafOf b))
  have XA : Hid (chainOf (leafOf b) = leafOf b :: upOf (leafOf b)) := by
    show _ = _
    have hb' := HBR.out
    have hl : leafOf b = 7 + b := by unfold leafOf; rw [if_pos hb']
    unfold chainOf; rw [if_pos (by rw [hl]; omega)]
  clear hY0 HH2 hbr hXl hYl hZl hAt
  obtain ⟨lf, hlf⟩ : ∃ lf, leafOf b = lf := ⟨_, rfl⟩
  rw [hlf] at HAT XA hlu LA
  have HLF := hide hlf
  clear hlf
  go_wp2_with fail
  refine (iTreLeaf_any b _).mono ?_
  rw [HLF.out]
  rintro e w7 ⟨rfl, rfl⟩
  go_wp2_with fail
  refine (iTreLeaf_any b _).mono ?_
  rw [HLF.out]
  rintro e wl ⟨rfl, rfl⟩
  go_wp2_with fail
  refine (iTreUp_any lf _).mono ?_
  rintro e wcx ⟨vcx, rfl, hox, hbx⟩
  have Nx := hide hox.irow.news
  have hrx : Hid (wcx.ownsRow w7.heap.size 3 1 (.slice (some ⟨w7.heap.size, 0, none⟩) 1 1) 1 [.int .i64 lf]) := own_below' (World.ownsRow_lit (base := w7.heap.size) (e := 3) (size := 1) w7 #[.int .i64 lf] 1 (Nat.le_refl _) (by unfold maxLen; omega) rfl) hbx
  have hcx : Hid (Below w7.heap.size w7 wcx) := ((Below.refl _ _).alloc (Nat.le_refl _) _).trans (hbx.mono (by simp))
  clear hox hbx
  go_wp2_with (at_builtin; refine wpList_append_row _ rfl _ _ 28 rfl w7.heap.size 3 i0 (.int .i64 0) 1 8 Try.underlying28 (unhide hI).1 (unhide hI).2.1 (unhide hI).2.2.1 (unhide hI).2.2.2 rfl (by decide) _ _ _ rfl (unhide hrx) _ _ _ rfl (unhide Nx) (ints_one _) (by unfold maxLen; omega) (by omega) (unhide hcx).size ?_)
  intro vx wx hownx hgx
  have hox2 : OwnI w7.heap.size wx vx (chainOf lf) := by
    rw [XA.out]
    unfold OwnI
    rw [List.length_cons, Nat.add_comm]
    exact hownx
  have hbx2 : Below w7.heap.size w7 wx := (unhide hcx).grown hgx (unhide hcx).size (fun k hk => by cases hk; exact Nat.le_refl _)
  have Rx := hide (IIn.of hox2)
  have HB8 := hide ((unhide HB7).trans (hbx2.mono HB7.out.size))
  have T8 := hide ((unhide T7).below hbx2)
  have X8 := hide ((unhide X7).below hbx2)
  have Y8 := hide ((unhide Y7).below hbx2)
  obtain ⟨ox, cx, hvx⟩ := row_form' hox2
  subst hvx
  clear hownx hgx hox2 hbx2 hrx hcx Nx HB7 T7 X7 Y7 l1 hlu XA
  generalize chainOf lf = C at *
  have l1 := (unhide T8).box.cell
  go_wp2_with fail
  refine (iTreSet_any _ xs b u _ (unhide T8).row (unhide HM) HUZ.out).mono ?_
  rintro e w9 ⟨z, rfl, ho9, hb9⟩
  obtain ⟨Z, hZ⟩ : ∃ Z, setRes xs b u = Z := ⟨_, rfl⟩
  rw [hZ] at ho9 HZL HAT
  clear hZ
  obtain ⟨ao9, kp9, rfl, _, _, _⟩ := ho9.srow.form
  have Z9 := hide (TV.new ho9.srow)
  have hb9' := hb9.trans ((below_new w9 (.cells #[.slice ao9 Z.length kp9] 25)).mono hb9.size)
  have X9 := hide ((unhide X8).below hb9')
  have Y9 := hide ((unhide Y8).below hb9')
  have R9 := hide ((unhide Rx).below hb9')
  have HB9 := hide (HB8.out.trans (hb9'.mono HB8.out.size))
  clear hb9 hb9' ho9 HB8 T8 X8 Y8 l1 Rx hz
  have lx := (unhide X9).box.cell
  have ly := (unhide Y9).box.cell
  have lz := (unhide Z9).box.cell
  go_wp2_with fail
  go_loop [15] (fun i => ∃ k : Nat, k ≤ 15 ∧ i = .int .i64 (k : Int)) (fun i => 15 - (intOf i).toNat)
  case atStart => exact ⟨0, by omega, rfl⟩
  case round =>
    obtain ⟨k, hk, rfl⟩ := hrel
    by_cases hlt : k < 15
    · have hlt2 : (k : Int) < 15 := by omega
      have i3 : IntKind.i64.wrap ((k : Int) + 1) = (k : Int) + 1 := by simp [IntKind.wrap, IntKind.bits, IntKind.signed]; omega
      obtain ⟨p0, p1, p2, _, _, p5⟩ := (unhide X9).row.form
      simp only [Value.slice.injEq] at p2
      obtain ⟨rfl, _, rfl⟩ := p2
      obtain ⟨adx, rfl, hcx⟩ := p5 k (by have := HXL.out; omega)
      obtain ⟨p0, p1, p2, _, _, p6⟩ := (unhide Y9).row.form
      simp only [Value.slice.injEq] at p2
      obtain ⟨rfl, _, rfl⟩ := p2
      obtain ⟨ady, rfl, hcy⟩ := p6 k (by have := HYL.out; omega)
      obtain ⟨p0, p1, p2, _, _, p7⟩ := (unhide Z9).row.form
      simp only [Value.slice.injEq] at p2
      obtain ⟨rfl, _, rfl⟩ := p2
      obtain ⟨adz, rfl, hcz⟩ := p7 k (by have := HZL.out; omega)
      have hat := HAT.out k hlt
      have gx : (k : Int) < (X.length : Int) := by have := HXL.out; omega
      have gy : (k : Int) < (Y.length : Int) := by have := HYL.out; omega
      have gz : (k : Int) < (Z.length : Int) := by have := HZL.out; omega
      clear p5 p6 p7
      generalize Y.getD k ByteArray.empty = yk at *
      generalize X.getD k ByteArray.empty = xk at *
      generalize Z.getD k ByteArray.empty = zk at *
      by_cases hin : (k : Int) ∈ C
      · have HIN := hide hin
        rw [if_pos hin] at hat
        subst hat
        clear hin
        go_wp2_with fail
        refine (keIn_any _ C k _ (unhide R9).irow).mono ?_
        rw [decide_eq_true HIN.out]
        rintro e wk ⟨rfl, rfl⟩
        go_wp2_with fail
        exact ⟨⟨k + 1, by omega, by simp⟩, by simp [intOf]; omega⟩
      · have HIN := hide hin
        rw [if_neg hin] at hat
        subst hat
        clear hin
        go_wp2_with fail
        refine (keIn_any _ C k _ (unhide R9).irow).mono ?_
        rw [decide_eq_false HIN.out]
        rintro e wk ⟨rfl, rfl⟩
        go_wp2_with fail
        exact ⟨⟨k + 1, by omega, by simp⟩, by simp [intOf]; omega⟩
    · have hlt2 : decide ((k : Int) < 15) = false := by simp; omega
      go_wp2_with fail
      go_ret
      exact ⟨rfl, unhide HB9⟩
#print axioms walk_FnTreTwo

set_option maxRecDepth 100000 in
theorem lifted_FnTreTwo (os : Os) (started : os.Started) (H : Type) (enc : TypeId × Value → H) :
    ReturnsInHanded {} Try.checked os 4 .any (Rows.fnTreTwoSpec.pre6 enc Try.prog Try.f4 Rows.fnTreTwoRow.domain false) (Rows.fnTreTwoSpec.post enc Try.prog Try.f4 false true false false) := by
  refine returnsInHanded_of_change (C := Try.checked) own started (by kernel_rfl) Try.func4
    (ChangeSpec.witness6 (enc := enc) (C := Try.checked) false ⟨#[], #[.slice none 0 0, .slice none 0 0], []⟩ 8 (by kernel_rfl) (by kernel_rfl) (by kernel_rfl) (by kernel_rfl)) ?_
  intro W base args ds gs before hval0 hW hcnd _
  have hval : ∀ (j : Nat) t v, Try.f4.params[j]? = some t → args[j]? = some v → Value.okWide Try.prog W .any base t v := hval0
  have hW' := hW
  obtain ⟨p, q, hA0, hV, rfl, hfz, hnd⟩ := hW
  have hA : DataW.TrodAll enc Try.prog W 0 (fun _ => true) true Try.f4.params.toList args.toList ds p := hA0
  rw [Try.params4] at hA hval
  obtain ⟨v0, vs0, d0, ds0, p0, q0, hargs, rfl, rfl, h0, r0⟩ := trodAll_cons hA
  obtain ⟨v1, vs1, d1, ds1, p1, q1, rfl, rfl, rfl, h1, r1⟩ := trodAll_cons r0
  obtain ⟨rfl, rfl, rfl⟩ := trodAll_nil r1
  obtain rfl : args = #[v0, v1] := by cases args; simp_all
  obtain ⟨rfl, rfl⟩ := trodVars_none hV
  obtain ⟨a0, len0, cap0, rfl⟩ := okWide_slice Try.underlying22 (hval 0 22 v0 rfl rfl)
  have k0 := h0
  have lt0 : ∀ x ∈ p0, x.block < W.heap.size := by obtain ⟨m, hm⟩ := k0; exact DataW.trod_lt m _ _ _ hm
  obtain ⟨z0, w0⟩ : ∃ zs, IsRow .u8 W a0 len0 cap0 zs := by
    obtain ⟨fuel, hf⟩ := h0
    rcases open_ints Try.underlying22 Try.underlying5 (by kernel_rfl) hf with ⟨hcs, _⟩ | ⟨x, l, c, zs, hcs, _, hl, hm, hz, _, hcell, hwz⟩
    · simp [Value.cells] at hcs
      obtain ⟨rfl, rfl, rfl⟩ := hcs
      exact ⟨[], .inl ⟨rfl, rfl, rfl, rfl⟩⟩
    · simp [Value.cells] at hcs
      obtain ⟨rfl, rfl, rfl⟩ := hcs
      exact ⟨zs, .inr ⟨_, rfl, hl, hm, by simpa using hz, hcell, hwz⟩⟩
  obtain ⟨a1, len1, cap1, rfl⟩ := okWide_slice Try.underlying22 (hval 1 22 v1 rfl rfl)
  have k1 := h1
  have lt1 : ∀ x ∈ p1, x.block < W.heap.size := by obtain ⟨m, hm⟩ := k1; exact DataW.trod_lt m _ _ _ hm
  obtain ⟨z1, w1⟩ : ∃ zs, IsRow .u8 W a1 len1 cap1 zs := by
    obtain ⟨fuel, hf⟩ := h1
    rcases open_ints Try.underlying22 Try.underlying5 (by kernel_rfl) hf with ⟨hcs, _⟩ | ⟨x, l, c, zs, hcs, _, hl, hm, hz, _, hcell, hwz⟩
    · simp [Value.cells] at hcs
      obtain ⟨rfl, rfl, rfl⟩ := hcs
      exact ⟨[], .inl ⟨rfl, rfl, rfl, rfl⟩⟩
    · simp [Value.cells] at hcs
      obtain ⟨rfl, rfl, rfl⟩ := hcs
      exact ⟨zs, .inr ⟨_, rfl, hl, hm, by simpa using hz, hcell, hwz⟩⟩
  clear hA0 hval0
  refine (walk_FnTreTwo a0 len0 cap0 z0 a1 len1 cap1 z1 W w0 w1).mono fun e W' ⟨he, bel⟩ => ?_
  subst he
  exact ⟨_, rfl, _, _, _, [], _, [], hW', trodAll_mk1 (shut_bool Try.underlying4 _), (trodAll_cons_mk (Below.trod laidOut (by kernel_rfl) (of_decide_eq_true (by kernel_rfl)) k0 bel lt0) (trodAll_cons_mk (Below.trod laidOut (by kernel_rfl) (of_decide_eq_true (by kernel_rfl)) k1 bel lt1) trodAll_mk0)), rfl, bel.frame _, fun h => by cases h⟩

theorem fnTreTwo_holds : Rows.FnTreTwoSaid :=
  OpenClaim.holds_of_wide 4 Try.f4 rfl rfl rfl rfl rfl rfl rfl ⟨rfl, rfl, rfl, rfl, rfl⟩ rfl rfl rfl rfl rfl (by kernel_rfl) Try.func4 (by kernel_rfl)
    (of_decide_eq_true (by kernel_rfl)) (by unfold Func.isWrapper; first | (rw [if_pos (by decide +kernel)]; kernel_rfl) | (rw [if_neg (by decide +kernel)]; exact ⟨rfl, rfl⟩))
    (fun os started H enc _ => lifted_FnTreTwo os started H enc)

#print axioms fnTreTwo_holds
end Go.Proofs.Ytjmnfdfnndoffaa
