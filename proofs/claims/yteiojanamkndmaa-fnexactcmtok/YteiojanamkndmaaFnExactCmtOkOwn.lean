/-
  Proved: at every commit the program's CmtOk answers as the specification's CmtOk, and writes into no argument; nothing that was there is written. No condition.
-/
import Derived.Test.YteiojanamkndmaaFnExactCmtOkB5
import Derived.Test.YteiojanamkndmaaFnExactCmtOkB6
import Derived.Test.YteiojanamkndmaaFnExactCmtOkB8
namespace Go.Proofs.Yteiojanamkndmaa
open Go.ChangeShapes Go.WideShapes Go.ChangeAt Go.RowKit
open Go.ChangeMaps (open_string shut_string)
set_option linter.unusedVariables false

theorem info_lc : (Try.prog.info? 29).map (·.size) = some 13 := by kernel_rfl
theorem load_lc {w : World} {b : Nat} {cs : Array Value} (h : Blk w b 29 cs) (hc : cs.size = 13) : (loadVar 29 ⟨b, 0, none⟩).run Try.prog w = .ok (.agg cs) w :=
  run_loadVar_row w b _ _ cs (0, 0) _ h Try.underlying29 rfl (by rw [hc]; exact info_lc)

set_option maxRecDepth 100000 in
set_option maxHeartbeats 4000000 in
theorem walk_FnExactCmtOk (m : Cmt) (ks bs : Value) (w : World) (hK : SRow w ks m.keys) (hO : BRow w bs m.boxes) (hfit : CmtFit m) :
    Calls Try.prog 3 #[.agg (m.cells ks bs)] w fun e w' => e = .returned (.bool true) ∧ Below w.heap.size w w' := by
  obtain ⟨se, tag, name, add, rem, leaf, keys, boxes, wk, ik, is, sk, ss⟩ := m
  have HF := hide hfit
  simp only at hK hO
  have HK := hide hK
  have HO := hide hO
  obtain ⟨a1, p1, rfl, _, _, z1⟩ := hK.form
  obtain ⟨a2, p2, rfl, _, _, z2⟩ := hO
  clear hK hfit z1 z2
  have A := hide (Blk.new w 29 (cmtC se tag name add rem leaf (.slice a1 keys.length p1) (.slice a2 boxes.length p2) wk ik is sk ss))
  have HB : Hid (Below w.heap.size w (w.alloc (.cells (cmtC se tag name add rem leaf (.slice a1 keys.length p1) (.slice a2 boxes.length p2) wk ik is sk ss) 29))) := (Below.refl _ _).alloc (Nat.le_refl _) _
  have L1 := hide (load_lc (unhide A) rfl)
  go_enter Try.func3, Try.ntmps3
  go_wp2_with (refine wpList_load_whole rfl 29 _ rfl ⟨w.heap.size, 0, none⟩ rfl _ (unhide L1) ?_)
  refine (szCmtCommit_any ⟨se, tag, name, add, rem, leaf, keys, boxes, ⟨wk, ik, is, sk, ss⟩⟩ _ _ 1048576 _ ((unhide HK).below (unhide HB)) ((unhide HO).below (unhide HB)) HF.out.1 HF.out.2.1 HF.out.2.2.1 HF.out.2.2.2.1 HF.out.2.2.2.2.1 HF.out.2.2.2.2.2.1 HF.out.2.2.2.2.2.2.1 HF.out.2.2.2.2.2.2.2.1 HF.out.2.2.2.2.2.2.2.2.1 HF.out.2.2.2.2.2.2.2.2.2 (by omega) (by omega)).mono ?_
  rintro e w1 ⟨r, rfl, hr1, hr2, hb⟩
  replace A := hide ((unhide A).below hb)
  replace HB := hide (HB.out.trans (hb.mono HB.out.size))
  have HR := hide hr2
  clear hb hr2 L1
  by_cases hneg : r < 0
  · go_wp2_with fail
    go_ret
    exact ⟨rfl, unhide HB⟩
  have hneg2 : decide (r < 0) = false := by simpa using hneg
  have HL := hide (HR.out (by omega))
  simp only at HL
  clear hneg HR
  have L1 := hide (load_lc (unhide A) rfl)
  go_wp2_with (refine wpList_load_whole rfl 29 _ rfl ⟨w.heap.size, 0, none⟩ rfl _ (unhide L1) ?_)
  refine (toCmtCommit_any ⟨se, tag, name, add, rem, leaf, keys, boxes, ⟨wk, ik, is, sk, ss⟩⟩ _ _ _ ((unhide HK).below (unhide HB)) ((unhide HO).below (unhide HB)) HL.out.2.2.2.1 HL.out.2.2.2.2.1).mono ?_
  rintro e w2 ⟨ks1, bs1, rfl, o1, o2, hb⟩
  have S1 := hide o1.srow
  have S2 := hide o2.brow
  replace A := hide ((unhide A).below hb)
  replace HB := hide (HB.out.trans (hb.mono HB.out.size))
  clear o1 o2 hb L1
  go_wp2_with fail
  refine (sCmtOk_any ⟨se, tag, name, add, rem, leaf, keys, boxes, ⟨wk, ik, is, sk, ss⟩⟩ _ _ _ (unhide S1) (unhide S2) HF.out.1 HF.out.2.1 (Nat.le_trans HL.out.2.1 (by omega)) (Nat.le_trans HL.out.1 (by omega)) HF.out.2.2.2.2.1 HF.out.2.2.2.2.2.1 HF.out.2.2.2.2.2.2.2.1 HF.out.2.2.2.2.2.2.2.2.2).mono ?_
  obtain ⟨tb, htb⟩ : ∃ tb, cmtOk ⟨se, tag, name, add, rem, leaf, keys, boxes, ⟨wk, ik, is, sk, ss⟩⟩ = tb := ⟨_, rfl⟩
  rw [htb]
  have HT := hide htb
  clear htb
  rintro e w3 ⟨rfl, hb⟩
  replace A := hide ((unhide A).below hb)
  replace HB := hide (HB.out.trans (hb.mono HB.out.size))
  clear hb S1 S2
  have L1 := hide (load_lc (unhide A) rfl)
  go_wp2_with (refine wpList_load_whole rfl 29 _ rfl ⟨w.heap.size, 0, none⟩ rfl _ (unhide L1) ?_)
  refine (toCmtCommit_any ⟨se, tag, name, add, rem, leaf, keys, boxes, ⟨wk, ik, is, sk, ss⟩⟩ _ _ _ ((unhide HK).below (unhide HB)) ((unhide HO).below (unhide HB)) HL.out.2.2.2.1 HL.out.2.2.2.2.1).mono ?_
  rintro e w4 ⟨ks2, bs2, rfl, o1, o2, hb⟩
  have s3 := o1.srow
  have s4 := o2.brow
  replace A := hide ((unhide A).below hb)
  replace HB := hide (HB.out.trans (hb.mono HB.out.size))
  clear o1 o2 hb L1
  obtain ⟨a3, p3, rfl, _, _, z1⟩ := s3.form
  obtain ⟨a4, p4, rfl, _, _, z2⟩ := id s4
  clear z1 z2
  have X := hide (Blk.new w4 37 (cmtC se tag name add rem leaf (.slice a3 keys.length p3) (.slice a4 boxes.length p4) wk ik is sk ss))
  have hs := HB.out.size
  have hbx := (Below.refl w4.heap.size w4).alloc (Nat.le_refl _) (.cells (cmtC se tag name add rem leaf (.slice a3 keys.length p3) (.slice a4 boxes.length p4) wk ik is sk ss) 37)
  have S3 := hide (s3.below hbx)
  have S4 := hide (s4.below hbx)
  replace A := hide ((unhide A).below hbx)
  replace HB := hide (HB.out.trans (hbx.mono hs))
  clear hbx s3 s4
  have L1 := hide (load_cm (unhide X) rfl)
  go_wp2_with (refine wpList_load_whole rfl 37 _ rfl ⟨w4.heap.size, 0, none⟩ rfl _ (by exact unhide L1) ?_)
  refine (iCmtOk_any ⟨se, tag, name, add, rem, leaf, keys, boxes, ⟨wk, ik, is, sk, ss⟩⟩ _ _ _ (unhide S3) (unhide S4) HF.out.1 HF.out.2.1 (Nat.le_trans HL.out.2.1 (by omega)) (Nat.le_trans HL.out.1 (by omega)) HF.out.2.2.2.2.1 HF.out.2.2.2.2.2.1 HF.out.2.2.2.2.2.2.2.1 HF.out.2.2.2.2.2.2.2.2.2).mono ?_
  rw [HT.out]
  rintro e w5 ⟨rfl, hb⟩
  replace A : Hid (Blk w5.drew w.heap.size 29 (cmtC se tag name add rem leaf (.slice a1 keys.length p1) (.slice a2 boxes.length p2) wk ik is sk ss)) := ((unhide A).below hb).drew
  replace X : Hid (Blk w5.drew w4.heap.size 37 (cmtC se tag name add rem leaf (.slice a3 keys.length p3) (.slice a4 boxes.length p4) wk ik is sk ss)) := ((unhide X).below hb).drew
  replace S3 : Hid (SRow w5.drew (.slice a3 keys.length p3) keys) := (unhide S3).below hb.drew
  replace S4 : Hid (BRow w5.drew (.slice a4 boxes.length p4) boxes) := (unhide S4).below hb.drew
  replace HB : Hid (Below w.heap.size w w5.drew) := (HB.out.trans (hb.mono HB.out.size)).drew
  clear hb L1
  cases tb
  all_goals
    go_wp2_with fail
    refine wp_region_later (by kernel_rfl) ?_
    refine later_take (i := 0) (d := 22) (v := ?_) (by kernel_rfl) (by kernel_rfl) (by kernel_rfl) (by kernel_rfl) (fun _ _ _ h => h) (fun oi hoi => ?_) ?_
    rotate_left
    · simp at hoi
      subst hoi
      refine ⟨by rfl, fun w' hw' => ?_⟩
      have hx := Blk.below (unhide X) hw'
      have x0 := hx.cell 0
      have x1 := hx.cell 1
      have x2 := hx.cell 2
      have x3 := hx.cell 3
      have x4 := hx.cell 4
      have x5 := hx.cell 5
      have x6 := hx.cell 6
      have x7 := hx.cell 7
      have x8 := hx.cell 8
      have x9 := hx.cell 9
      have x10 := hx.cell 10
      have x11 := hx.cell 11
      have x12 := hx.cell 12
      simp only [List.getElem?_toArray, List.getElem?_cons_succ, List.getElem?_cons_zero] at x0 x1 x2 x3 x4 x5 x6 x7 x8 x9 x10 x11 x12
      go_simp
      all_goals rfl
    try simp only [Act.put, List.setIfInBounds_toArray, List.set_cons_zero, List.set_cons_succ]
    refine later_take (i := 1) (d := 23) (v := ?_) (by kernel_rfl) (by kernel_rfl) (by kernel_rfl) (by kernel_rfl) (fun _ _ _ h => h) (fun oi hoi => ?_) ?_
    rotate_left
    · simp at hoi
      subst hoi
      refine ⟨by rfl, fun w' hw' => ?_⟩
      have hx := Blk.below (unhide A) hw'
      have x0 := hx.cell 0
      have x1 := hx.cell 1
      have x2 := hx.cell 2
      have x3 := hx.cell 3
      have x4 := hx.cell 4
      have x5 := hx.cell 5
      have x6 := hx.cell 6
      have x7 := hx.cell 7
      have x8 := hx.cell 8
      have x9 := hx.cell 9
      have x10 := hx.cell 10
      have x11 := hx.cell 11
      have x12 := hx.cell 12
      simp only [List.getElem?_toArray, List.getElem?_cons_succ, List.getElem?_cons_zero] at x0 x1 x2 x3 x4 x5 x6 x7 x8 x9 x10 x11 x12
      go_simp
      all_goals rfl
    try simp only [Act.put, List.setIfInBounds_toArray, List.set_cons_zero, List.set_cons_succ]
    refine later_one (i := 2) (by kernel_rfl) (fun oi K hoi hK => ?_)
    simp at hoi
    subst hoi
    refine ⟨by rfl, ?_⟩
    go_simp
    refine (toCmtCommit_any ⟨se, tag, name, add, rem, leaf, keys, boxes, ⟨wk, ik, is, sk, ss⟩⟩ _ _ _ ((unhide HK).below (unhide HB)) ((unhide HO).below (unhide HB)) HL.out.2.2.2.1 HL.out.2.2.2.2.1).mono ?_
    rintro e w6 ⟨ks3, bs3, rfl, o1, o2, hb⟩
    have S5 := hide o1.srow
    have S6 := hide o2.brow
    clear o1 o2
    go_simp
    refine hK.out _ _ hb ?_
    clear hK
    replace S3 := hide ((unhide S3).below hb)
    replace S4 := hide ((unhide S4).below hb)
    replace HB := hide (HB.out.trans (hb.mono HB.out.size))
    clear hb
    try simp only [Act.put, List.setIfInBounds_toArray, List.set_cons_zero, List.set_cons_succ]
    refine later_one (i := 3) (by kernel_rfl) (fun oi K hoi hK => ?_)
    simp at hoi
    subst hoi
    refine ⟨by rfl, ?_⟩
    go_simp
    refine (eqCmtCommit_same ⟨se, tag, name, add, rem, leaf, keys, boxes, ⟨wk, ik, is, sk, ss⟩⟩ _ _ _ _ _ (unhide S3) (unhide S4) (unhide S5) (unhide S6)).mono ?_
    rintro e w7 ⟨rfl, hb⟩
    go_simp
    refine hK.out _ _ hb ?_
    clear hK
    replace HB := hide (HB.out.trans (hb.mono HB.out.size))
    clear hb
    try simp only [Act.put, List.setIfInBounds_toArray, List.set_cons_zero, List.set_cons_succ]
    refine later_take (i := 4) (d := 26) (v := ?_) (by kernel_rfl) (by kernel_rfl) (by kernel_rfl) (by kernel_rfl) (fun _ _ _ h => h) (fun oi hoi => ?_) ?_
    rotate_left
    · simp at hoi
      subst hoi
      refine ⟨by rfl, fun w' hw' => ?_⟩
      go_simp
      all_goals rfl
    try simp only [Act.put, List.setIfInBounds_toArray, List.set_cons_zero, List.set_cons_succ]
    refine later_done (by kernel_rfl) ?_ _
    go_wp2_with fail
    go_ret
    exact ⟨rfl, unhide HB⟩

set_option maxRecDepth 100000 in
theorem lifted_FnExactCmtOk (os : Os) (started : os.Started) (H : Type) (enc : TypeId × Value → H) :
    ReturnsInHanded {} Try.checked os 3 .any (Rows.fnExactCmtOkSpec.pre6 enc Try.prog Try.f3 Rows.fnExactCmtOkRow.domain false) (Rows.fnExactCmtOkSpec.post enc Try.prog Try.f3 false true false false) := by
  refine returnsInHanded_of_change (C := Try.checked) own started (by kernel_rfl) Try.func3
    (ChangeSpec.witness6 (enc := enc) (C := Try.checked) false ⟨#[], #[.agg #[.int .i64 0, .string ByteArray.empty, .string ByteArray.empty, .int .i64 0, .int .i64 0, .string ByteArray.empty, .slice none 0 0, .slice none 0 0, .string ByteArray.empty, .string ByteArray.empty, .string ByteArray.empty, .string ByteArray.empty, .string ByteArray.empty]], []⟩ 8 (by kernel_rfl) (by kernel_rfl) (by kernel_rfl) (by kernel_rfl)) ?_
  intro W base args ds gs before hval0 hW hcnd _
  have hval : ∀ (j : Nat) t v, Try.f3.params[j]? = some t → args[j]? = some v → Value.okWide Try.prog W .any base t v := hval0
  have hW' := hW
  obtain ⟨p, q, hA0, hV, rfl, hfz, hnd⟩ := hW
  have hA : DataW.TrodAll enc Try.prog W 0 (fun _ => true) true Try.f3.params.toList args.toList ds p := hA0
  rw [Try.params3] at hA hval
  obtain ⟨v0, vs0, d0, ds0, p0, q0, hargs, rfl, rfl, h0, r0⟩ := trodAll_cons hA
  obtain ⟨rfl, rfl, rfl⟩ := trodAll_nil r0
  obtain rfl : args = #[v0] := by cases args; simp_all
  obtain ⟨rfl, rfl⟩ := trodVars_none hV
  obtain ⟨c0, rfl, hc0⟩ := okWide_struct Try.underlying29 (hval 0 29 v0 rfl rfl)
  have k0 := h0
  have lt0 : ∀ x ∈ p0, x.block < W.heap.size := by obtain ⟨m, hm⟩ := k0; exact DataW.trod_lt m _ _ _ hm
  obtain ⟨m0, u0, z0, rfl, w0, x0, y0⟩ : ∃ (m : Cmt) (ks bs : Value), c0 = m.cells ks bs ∧ SRow W ks m.keys ∧ BRow W bs m.boxes ∧ CmtFit m := by
    obtain ⟨fuel, hf⟩ := h0
    exact open_commit hc0 hf
  clear hA0 hval0
  refine (walk_FnExactCmtOk m0 u0 z0 W w0 x0 y0).mono fun e W' ⟨he, bel⟩ => ?_
  subst he
  exact ⟨_, rfl, _, _, _, [], _, [], hW', trodAll_mk1 (shut_bool Try.underlying4 _), (trodAll_cons_mk (Below.trod laidOut (by kernel_rfl) (of_decide_eq_true (by kernel_rfl)) k0 bel lt0) trodAll_mk0), rfl, bel.frame _, fun h => by cases h⟩

theorem fnExactCmtOk_holds : Rows.FnExactCmtOkSaid :=
  OpenClaim.holds_of_wide 3 Try.f3 rfl rfl rfl rfl rfl rfl rfl ⟨rfl, rfl, rfl, rfl, rfl⟩ rfl rfl rfl rfl rfl (by kernel_rfl) Try.func3 (by kernel_rfl)
    (of_decide_eq_true (by kernel_rfl)) (by unfold Func.isWrapper; first | (rw [if_pos (by decide +kernel)]; kernel_rfl) | (rw [if_neg (by decide +kernel)]; exact ⟨rfl, rfl⟩))
    (fun os started H enc _ => lifted_FnExactCmtOk os started H enc)

#print axioms fnExactCmtOk_holds
end Go.Proofs.Yteiojanamkndmaa
