/-
  Proved: at every one, two texts and a commit the program's MemJoin answers as the specification's, field by field; it writes into no argument and keeps nothing of one; its answer owns its memory, behind another call too. No condition.
-/
import Derived.Test.YteiojanamkndmaaGreatFnExactMemJoinB5
import Derived.Test.YteiojanamkndmaaGreatFnExactMemJoinB7
import Derived.Test.YteiojanamkndmaaGreatFnExactMemJoinB19
import Derived.Test.YteiojanamkndmaaGreatFnExactMemJoinB20
namespace Go.Proofs.YteiojanamkndmaaGreat
open Go.ChangeShapes Go.WideShapes Go.ChangeAt Go.RowKit
open Go.ChangeMaps (open_string shut_string)
set_option linter.unusedVariables false

theorem info_lc : (Tryz.prog.info? 29).map (·.size) = some 13 := by kernel_rfl
theorem load_lc {w : World} {b : Nat} {cs : Array Value} (h : Blk w b 29 cs) (hc : cs.size = 13) : (loadVar 29 ⟨b, 0, none⟩).run Tryz.prog w = .ok (.agg cs) w :=
  run_loadVar_row w b _ _ cs (0, 0) _ h Tryz.underlying29 rfl (by rw [hc]; exact info_lc)
theorem joinR_len (who : Int) (leaf key : ByteArray) (c : Cmt) : (joinR who leaf key c).keys.length ≤ 1000 ∧ (joinR who leaf key c).own.length ≤ 1000 := by
  unfold joinR
  cases h : joinB who leaf key c with
  | false => exact ⟨Nat.zero_le _, Nat.zero_le _⟩
  | true =>
    rw [if_pos rfl]
    unfold joinB joinT at h
    simp only [Bool.and_eq_true] at h
    have hc := h.1.1
    have ha : 0 ≤ c.add := by
      have := h.1.2.1
      simpa using this
    have hw : c.add = who := by simpa using h.1.2.2.1
    have hk : c.keys.length = 15 := (treOk_iff.1 (cmtOk_keys hc)).1
    have hb := cmtOk_add hc
    refine ⟨by show c.keys.length ≤ 1000; omega, ?_⟩
    show (joinOwn who leaf c).length ≤ 1000
    unfold joinOwn
    obtain ⟨np, hnp, hmp⟩ := meet_place (a := who) (b := c.sender) (by omega) (cmtOk_sender hc)
    rw [List.length_cons, pathOf_len, hmp]
    have := chain_len np hnp
    omega

set_option maxRecDepth 100000 in
set_option maxHeartbeats 8000000 in
theorem walk_FnExactMemJoin (who : Int) (leaf key : ByteArray) (m : Cmt) (ks bs : Value) (w : World) (w0 : (Lit.int .i64 who).wf = true) (hs : leaf.size ≤ maxLen) (ht : key.size ≤ maxLen) (hK : SRow w ks m.keys) (hO : BRow w bs m.boxes) (hfit : CmtFit m) :
    Calls Tryz.prog 3 #[.int .i64 who, .string leaf, .string key, .agg (m.cells ks bs)] w fun e w' => e = .returned (.bool true) ∧ Below w.heap.size w w' := by
  clear w0
  obtain ⟨se, tag, name, add, rem, lf, keys, boxes, wk, ik, is, sk, ss⟩ := m
  have HF := hide hfit
  have HS := hide hs
  have HT := hide ht
  simp only at hK hO
  have HK := hide hK
  have HO := hide hO
  obtain ⟨a1, p1, rfl, _, _, z1⟩ := hK.form
  obtain ⟨a2, p2, rfl, _, _, z2⟩ := hO
  clear hK hfit z1 z2
  unfold maxLen at hs ht
  have Z := hide (Blk.new w 29 (cmtC se tag name add rem lf (.slice a1 keys.length p1) (.slice a2 boxes.length p2) wk ik is sk ss))
  have HB : Hid (Below w.heap.size w (w.alloc (.cells (cmtC se tag name add rem lf (.slice a1 keys.length p1) (.slice a2 boxes.length p2) wk ik is sk ss) 29))) := (Below.refl _ _).alloc (Nat.le_refl _) _
  by_cases hbig : (1048576 : Int) < (leaf.size : Int)
  · go_enter Tryz.func3, Tryz.ntmps3
    go_wp2_with fail
    go_ret
    exact ⟨rfl, unhide HB⟩
  have hbig2 : decide ((1048576 : Int) < (leaf.size : Int)) = false := by simpa using hbig
  clear hbig
  by_cases hbig : (1048576 : Int) < (key.size : Int)
  · go_enter Tryz.func3, Tryz.ntmps3
    go_wp2_with fail
    go_ret
    exact ⟨rfl, unhide HB⟩
  have hbig3 : decide ((1048576 : Int) < (key.size : Int)) = false := by simpa using hbig
  clear hbig
  have L1 := hide (load_lc (unhide Z) rfl)
  go_enter Tryz.func3, Tryz.ntmps3
  go_wp2_with (refine wpList_load_whole rfl 29 _ rfl ⟨w.heap.size, 0, none⟩ rfl _ (unhide L1) ?_)
  refine (szCmtCommit_any ⟨se, tag, name, add, rem, lf, keys, boxes, ⟨wk, ik, is, sk, ss⟩⟩ _ _ 1048576 _ ((unhide HK).below (unhide HB)) ((unhide HO).below (unhide HB)) HF.out.1 HF.out.2.1 HF.out.2.2.1 HF.out.2.2.2.1 HF.out.2.2.2.2.1 HF.out.2.2.2.2.2.1 HF.out.2.2.2.2.2.2.1 HF.out.2.2.2.2.2.2.2.1 HF.out.2.2.2.2.2.2.2.2.1 HF.out.2.2.2.2.2.2.2.2.2 (by omega) (by omega)).mono ?_
  rintro e w1 ⟨r, rfl, hr1, hr2, hb⟩
  replace Z := hide ((unhide Z).below hb)
  replace HB := hide (HB.out.trans (hb.mono HB.out.size))
  have HR := hide hr2
  clear hb hr2 L1 hbig2 hbig3
  by_cases hneg : r < 0
  · go_wp2_with fail
    go_ret
    exact ⟨rfl, unhide HB⟩
  have hneg2 : decide (r < 0) = false := by simpa using hneg
  have HL := hide (HR.out (by omega))
  simp only at HL
  have FT : Hid ((∀ x ∈ keys, x.size ≤ maxLen) ∧ (∀ b ∈ boxes, b.1.size ≤ maxLen ∧ b.2.size ≤ maxLen) ∧ name.size ≤ 2000000 ∧ tag.size ≤ 2000000 ∧ lf.size ≤ maxLen ∧ wk.size ≤ maxLen ∧ is.size ≤ maxLen ∧ ss.size ≤ maxLen) := ⟨HF.out.1, HF.out.2.1, Nat.le_trans HL.out.2.1 (by omega), Nat.le_trans HL.out.1 (by omega), HF.out.2.2.2.2.1, HF.out.2.2.2.2.2.1, HF.out.2.2.2.2.2.2.2.1, HF.out.2.2.2.2.2.2.2.2.2⟩
  clear hneg HR hr1
  obtain ⟨hl1, hl2⟩ := joinR_len who leaf key ⟨se, tag, name, add, rem, lf, keys, boxes, ⟨wk, ik, is, sk, ss⟩⟩
  obtain ⟨rm, hrm⟩ : ∃ rm, joinR who leaf key ⟨se, tag, name, add, rem, lf, keys, boxes, ⟨wk, ik, is, sk, ss⟩⟩ = rm := ⟨_, rfl⟩
  rw [hrm] at hl1 hl2
  have HRM := hide hrm
  obtain ⟨rb, hrb⟩ : ∃ rb, joinB who leaf key ⟨se, tag, name, add, rem, lf, keys, boxes, ⟨wk, ik, is, sk, ss⟩⟩ = rb := ⟨_, rfl⟩
  have HRB := hide hrb
  clear hrm hrb
  obtain ⟨inn, mw, mk, mo, me, mi, mt⟩ := rm
  simp only at hl1 hl2
  have HSP : Hid (∀ (u : World) (ks bs : Value), SRow u ks keys → BRow u bs boxes → Calls Tryz.prog 5 #[.int .i64 who, .string leaf, .string key, .agg (cmtC se tag name add rem lf ks bs wk ik is sk ss)] u fun e w' => ∃ ks' os', e = .returned (.tuple #[.agg (memC inn mw ks' os' me mi mt), .bool rb]) ∧ Own u.heap.size w' ks' mk ∧ OwnM u.heap.size w' os' mo ∧ Below u.heap.size u w') := by
    intro u ks bs h1 h2
    have := sMemJoin_any who leaf key ⟨se, tag, name, add, rem, lf, keys, boxes, ⟨wk, ik, is, sk, ss⟩⟩ ks bs u h1 h2 HS.out HT.out (unhide FT)
    rw [HRM.out, HRB.out] at this
    exact this
  have HIP : Hid (∀ (u : World) (ks bs : Value), SRow u ks keys → BRow u bs boxes → Calls Tryz.prog 7 #[.int .i64 who, .string leaf, .string key, .agg (cmtC se tag name add rem lf ks bs wk ik is sk ss)] u fun e w' => ∃ ks' os', e = .returned (.tuple #[.agg (memC inn mw ks' os' me mi mt), .bool rb]) ∧ Own u.heap.size w' ks' mk ∧ OwnM u.heap.size w' os' mo ∧ Below u.heap.size u w') := by
    intro u ks bs h1 h2
    have := iMemJoin_any who leaf key ⟨se, tag, name, add, rem, lf, keys, boxes, ⟨wk, ik, is, sk, ss⟩⟩ ks bs u h1 h2 HS.out HT.out (unhide FT)
    rw [HRM.out, HRB.out] at this
    exact this
  have HTO : Hid (∀ u : World, Below w.heap.size w u → Calls Tryz.prog 6 #[.agg (cmtC se tag name add rem lf (.slice a1 keys.length p1) (.slice a2 boxes.length p2) wk ik is sk ss)] u fun e w' => ∃ ks' bs' : Value, e = .returned (.agg (cmtC se tag name add rem lf ks' bs' wk ik is sk ss)) ∧ Own u.heap.size w' ks' keys ∧ OwnB u.heap.size w' bs' boxes ∧ Below u.heap.size u w') := fun u hu => toCmtCommit_any ⟨se, tag, name, add, rem, lf, keys, boxes, ⟨wk, ik, is, sk, ss⟩⟩ _ _ u ((unhide HK).below hu) ((unhide HO).below hu) HL.out.2.2.2.1 HL.out.2.2.2.2.1
  clear HRM HRB
  have L1 := hide (load_lc (unhide Z) rfl)
  go_wp2_with (refine wpList_load_whole rfl 29 _ rfl ⟨w.heap.size, 0, none⟩ rfl _ (by exact unhide L1) ?_)
  clear L1
  refine (HTO.out _ (unhide HB)).mono ?_
  rintro e w2 ⟨ks1, bs1, rfl, o1, o2, hb⟩
  have S1 := hide o1.srow
  have S2 := hide o2.brow
  obtain ⟨a3, p3, hv⟩ := row_form' o1
  subst hv
  obtain ⟨a4, p4, hv⟩ := row_form' o2
  subst hv
  clear o1 o2
  replace Z := hide ((unhide Z).below hb)
  replace HB := hide (HB.out.trans (hb.mono HB.out.size))
  clear hb
  go_wp2_with fail
  refine (HSP.out _ _ _ (unhide S1) (unhide S2)).mono ?_
  rintro e w3 ⟨ks2, os2, rfl, o1, o2, hb⟩
  obtain ⟨a5, p5, hv⟩ := row_form' o1
  subst hv
  obtain ⟨a6, p6, hv⟩ := row_form' o2
  subst hv
  have W := hide (MemIn.of o1 o2)
  have hq2 := hb.size
  have HZW : Hid (w.heap.size < w3.heap.size) := by have := (unhide Z).lt; show _ < _; omega
  clear o1 o2 S1 S2
  replace Z := hide ((unhide Z).below hb)
  replace HB := hide (HB.out.trans (hb.mono HB.out.size))
  clear hb
  have hb := (Below.refl w3.heap.size w3).alloc (Nat.le_refl _) (.cells (memC inn mw (.slice a5 mk.length p5) (.slice a6 mo.length p6) me mi mt) 35)
  have A := hide (Blk.new w3 35 (memC inn mw (.slice a5 mk.length p5) (.slice a6 mo.length p6) me mi mt))
  replace Z := hide ((unhide Z).below hb)
  replace W := hide ((unhide W).below hb)
  replace HB := hide (HB.out.trans (hb.mono HB.out.size))
  clear hb
  have L1 := hide (load_lc (unhide Z) rfl)
  go_wp2_with (refine wpList_load_whole rfl 29 _ rfl ⟨w.heap.size, 0, none⟩ rfl _ (by exact unhide L1) ?_)
  clear L1
  refine (HTO.out _ (unhide HB)).mono ?_
  rintro e w4 ⟨ks3, bs3, rfl, o1, o2, hb⟩
  obtain ⟨a7, p7, hv⟩ := row_form' o1
  subst hv
  obtain ⟨a8, p8, hv⟩ := row_form' o2
  subst hv
  have KX := hide (RowIn.of o1)
  have BX := hide (RowIn.of o2)
  have hq4 := hb.size
  rw [World.size_alloc] at hq4 KX BX
  clear o1 o2
  replace Z := hide ((unhide Z).below hb)
  replace W := hide ((unhide W).below hb)
  replace A := hide ((unhide A).below hb)
  replace HB := hide (HB.out.trans (hb.mono HB.out.size))
  clear hb
  have hb := (Below.refl w4.heap.size w4).alloc (Nat.le_refl _) (.cells (cmtC se tag name add rem lf (.slice a7 keys.length p7) (.slice a8 boxes.length p8) wk ik is sk ss) 43)
  have X := hide (Blk.new w4 43 (cmtC se tag name add rem lf (.slice a7 keys.length p7) (.slice a8 boxes.length p8) wk ik is sk ss))
  replace Z := hide ((unhide Z).below hb)
  replace W := hide ((unhide W).below hb)
  replace A := hide ((unhide A).below hb)
  replace KX := hide ((unhide KX).below hb)
  replace BX := hide ((unhide BX).below hb)
  replace HB := hide (HB.out.trans (hb.mono HB.out.size))
  clear hb
  have L1 := hide (load_cm (unhide X) rfl)
  go_wp2_with (refine wpList_load_whole rfl 43 _ rfl ⟨w4.heap.size, 0, none⟩ rfl _ (by exact unhide L1) ?_)
  clear L1
  refine (HIP.out _ _ _ (own_srow (unhide KX).1) (OwnB.brow (unhide BX).1)).mono ?_
  rintro e w5 ⟨ks4, os4, rfl, o1, o2, hb⟩
  obtain ⟨a9, p9, hv⟩ := row_form' o1
  subst hv
  obtain ⟨a10, p10, hv⟩ := row_form' o2
  subst hv
  have G := hide (MemIn.of o1 o2)
  have hq5 := hb.size
  rw [World.size_alloc] at hq5 G
  clear o1 o2
  replace Z := hide ((unhide Z).below hb)
  replace W := hide ((unhide W).below hb)
  replace A := hide ((unhide A).below hb)
  replace KX := hide ((unhide KX).below hb)
  replace BX := hide ((unhide BX).below hb)
  replace X := hide ((unhide X).below hb)
  replace HB := hide (HB.out.trans (hb.mono HB.out.size))
  clear hb
  have hb := (Below.refl w5.heap.size w5).alloc (Nat.le_refl _) (.cells (memC inn mw (.slice a9 mk.length p9) (.slice a10 mo.length p10) me mi mt) 35)
  have C := hide (Blk.new w5 35 (memC inn mw (.slice a9 mk.length p9) (.slice a10 mo.length p10) me mi mt))
  replace Z := hide ((unhide Z).below hb)
  replace W := hide ((unhide W).below hb)
  replace A := hide ((unhide A).below hb)
  replace KX := hide ((unhide KX).below hb)
  replace BX := hide ((unhide BX).below hb)
  replace X := hide ((unhide X).below hb)
  replace G := hide ((unhide G).below hb)
  replace HB := hide (HB.out.trans (hb.mono HB.out.size))
  clear hb
  have L1 := hide (load_mm (unhide C) rfl)
  have L2 := hide (load_mm (unhide A) rfl)
  go_wp2_with (first | refine wpList_load_whole rfl 35 _ rfl ⟨w5.heap.size, 0, none⟩ rfl _ (by exact unhide L1) ?_ | refine wpList_load_whole rfl 35 _ rfl ⟨w3.heap.size, 0, none⟩ rfl _ (by exact unhide L2) ?_)
  clear L1 L2
  refine (eqMemMember_same ⟨inn, mw, mk, mo, me, mi, mt⟩ _ _ _ _ _ (unhide G).srow (unhide G).mrow (unhide W).srow (unhide W).mrow).mono ?_
  rintro e w6 ⟨rfl, hb⟩
  replace Z := hide ((unhide Z).below hb)
  replace W := hide ((unhide W).below hb)
  replace A := hide ((unhide A).below hb)
  replace KX := hide ((unhide KX).below hb)
  replace BX := hide ((unhide BX).below hb)
  replace X := hide ((unhide X).below hb)
  replace G := hide ((unhide G).below hb)
  replace C := hide ((unhide C).below hb)
  replace HB := hide (HB.out.trans (hb.mono HB.out.size))
  clear hb
  have hrr : (rb != rb) = false := by simp
  go_wp2_with fail
  replace Z := hide (unhide Z).drew
  replace A := hide (unhide A).drew
  replace X := hide (unhide X).drew
  replace C := hide (unhide C).drew
  replace W : Hid (MemIn _ _ w6.drew _ _ mk mo) := unhide W
  replace G : Hid (MemIn _ _ w6.drew _ _ mk mo) := unhide G
  replace KX : Hid (RowIn _ _ 9 1 w6.drew _ _ (keys.map Value.string)) := unhide KX
  replace BX : Hid (RowIn _ _ 39 2 w6.drew _ _ (bcells boxes)) := unhide BX
  replace HB := hide HB.out.drew
  refine wp_region_later (by kernel_rfl) ?_
  refine later_take (i := 0) (d := 59) (v := ?_) (by kernel_rfl) (by kernel_rfl) (by kernel_rfl) (by kernel_rfl) (fun _ _ _ h => h) (fun oi hoi => ?_) ?_
  rotate_left
  · simp at hoi
    subst hoi
    refine ⟨by rfl, fun w' hw' => ?_⟩
    have hx := Blk.below (unhide X) hw'
    have x0 := hx.cell 0
    have x1 := hx.cell 1
    have x2 := hx.cell 2
    have x3 := hx.cell 3
    have x4 := hx.cell 4
    have x5 := hx.cell 5
    have x6 := hx.cell 6
    have x7 := hx.cell 7
    have x8 := hx.cell 8
    have x9 := hx.cell 9
    have x10 := hx.cell 10
    have x11 := hx.cell 11
    have x12 := hx.cell 12
    simp only [List.getElem?_toArray, List.getElem?_cons_succ, List.getElem?_cons_zero] at x0 x1 x2 x3 x4 x5 x6 x7 x8 x9 x10 x11 x12
    go_simp
    all_goals rfl
  try simp only [Act.put, List.setIfInBounds_toArray, List.set_cons_zero, List.set_cons_succ]
  refine later_take (i := 1) (d := 60) (v := ?_) (by kernel_rfl) (by kernel_rfl) (by kernel_rfl) (by kernel_rfl) (fun _ _ _ h => h) (fun oi hoi => ?_) ?_
  rotate_left
  · simp at hoi
    subst hoi
    refine ⟨by rfl, fun w' hw' => ?_⟩
    have hx := Blk.below (unhide Z) hw'
    have x0 := hx.cell 0
    have x1 := hx.cell 1
    have x2 := hx.cell 2
    have x3 := hx.cell 3
    have x4 := hx.cell 4
    have x5 := hx.cell 5
    have x6 := hx.cell 6
    have x7 := hx.cell 7
    have x8 := hx.cell 8
    have x9 := hx.cell 9
    have x10 := hx.cell 10
    have x11 := hx.cell 11
    have x12 := hx.cell 12
    simp only [List.getElem?_toArray, List.getElem?_cons_succ, List.getElem?_cons_zero] at x0 x1 x2 x3 x4 x5 x6 x7 x8 x9 x10 x11 x12
    go_simp
    all_goals rfl
  try simp only [Act.put, List.setIfInBounds_toArray, List.set_cons_zero, List.set_cons_succ]
  refine later_one (i := 2) (by kernel_rfl) (fun oi K hoi hK => ?_)
  simp at hoi
  subst hoi
  refine ⟨by rfl, ?_⟩
  go_simp
  refine (HTO.out _ (unhide HB)).mono ?_
  rintro e w7 ⟨ks5, bs5, rfl, o1, o2, hb⟩
  have S5 := hide o1.srow
  have S6 := hide o2.brow
  clear o1 o2
  go_simp
  refine hK.out _ _ hb ?_
  clear hK
  replace Z := hide ((unhide Z).below hb)
  replace W := hide ((unhide W).below hb)
  replace A := hide ((unhide A).below hb)
  replace KX := hide ((unhide KX).below hb)
  replace BX := hide ((unhide BX).below hb)
  replace X := hide ((unhide X).below hb)
  replace G := hide ((unhide G).below hb)
  replace C := hide ((unhide C).below hb)
  replace HB := hide (HB.out.trans (hb.mono HB.out.size))
  clear hb
  try simp only [Act.put, List.setIfInBounds_toArray, List.set_cons_zero, List.set_cons_succ]
  refine later_one (i := 3) (by kernel_rfl) (fun oi K hoi hK => ?_)
  simp at hoi
  subst hoi
  refine ⟨by rfl, ?_⟩
  go_simp
  refine (eqCmtCommit_same ⟨se, tag, name, add, rem, lf, keys, boxes, ⟨wk, ik, is, sk, ss⟩⟩ _ _ _ _ _ (own_srow (unhide KX).1) (OwnB.brow (unhide BX).1) (unhide S5) (unhide S6)).mono ?_
  rintro e w8 ⟨rfl, hb⟩
  go_simp
  refine hK.out _ _ hb ?_
  clear hK
  replace Z := hide ((unhide Z).below hb)
  replace W := hide ((unhide W).below hb)
  replace A := hide ((unhide A).below hb)
  replace KX := hide ((unhide KX).below hb)
  replace BX := hide ((unhide BX).below hb)
  replace X := hide ((unhide X).below hb)
  replace G := hide ((unhide G).below hb)
  replace C := hide ((unhide C).below hb)
  replace HB := hide (HB.out.trans (hb.mono HB.out.size))
  clear hb
  clear S5 S6
  try simp only [Act.put, List.setIfInBounds_toArray, List.set_cons_zero, List.set_cons_succ]
  refine later_take (i := 4) (d := 63) (v := ?_) (by kernel_rfl) (by kernel_rfl) (by kernel_rfl) (by kernel_rfl) (fun _ _ _ h => h) (fun oi hoi => ?_) ?_
  rotate_left
  · simp at hoi
    subst hoi
    refine ⟨by rfl, fun w' hw' => ?_⟩
    go_simp
    all_goals rfl
  try simp only [Act.put, List.setIfInBounds_toArray, List.set_cons_zero, List.set_cons_succ]
  refine later_done (by kernel_rfl) ?_ _
  have L1 := hide (load_cm (unhide X) rfl)
  go_wp2_with (refine wpList_load_whole rfl 43 _ rfl ⟨w4.heap.size, 0, none⟩ rfl _ (by exact unhide L1) ?_)
  clear L1
  refine (markCmtCommit_any (w3.heap.size + 1) ⟨se, tag, name, add, rem, lf, keys, boxes, ⟨wk, ik, is, sk, ss⟩⟩ _ _ _ (unhide KX).1 (unhide BX).1 HL.out.2.2.2.1 HL.out.2.2.2.2.1).mono ?_
  rintro e w9 ⟨⟨r9, rfl⟩, u9, hg1, hg2⟩
  have o1 := RowIn.out (unhide KX)
  have o2 := RowIn.out (unhide BX)
  have hzl := (unhide Z).lt
  have hsz := HB.out.size
  have hzw : w.heap.size < w3.heap.size := HZW.out
  replace Z := hide (((unhide Z).kept hg1 (fun q => by have := o1 _ q.symm; omega)).kept hg2 (fun q => by have := o2 _ q.symm; omega))
  replace A := hide (((unhide A).kept hg1 (fun q => by have := o1 _ q.symm; omega)).kept hg2 (fun q => by have := o2 _ q.symm; omega))
  replace C := hide (((unhide C).kept hg1 (fun q => by have := o1 _ q.symm; omega)).kept hg2 (fun q => by have := o2 _ q.symm; omega))
  replace W := hide (((unhide W).grown hg1 (fun k hk => by have := o1 k hk; omega)).grown hg2 (fun k hk => by have := o2 k hk; omega))
  replace G := hide (((unhide G).grown hg1 (fun k hk => by have := o1 k hk; omega)).grown hg2 (fun k hk => by have := o2 k hk; omega))
  replace HB : Hid (Below w.heap.size w w9) := (HB.out.grown hg1 hsz (fun k hk => by have := o1 k hk; omega)).grown hg2 (Nat.le_trans hsz hg1.size) (fun k hk => by have := o2 k hk; omega)
  clear hg1 hg2 o1 o2 KX BX X hzl hsz
  have hr9 : decide ((r9 : Int) < 0) = false := by simp
  have c0 := (unhide C).cell 0
  have c1 := (unhide C).cell 1
  have c2 := (unhide C).cell 2
  have c3 := (unhide C).cell 3
  have c4 := (unhide C).cell 4
  have c5 := (unhide C).cell 5
  have c6 := (unhide C).cell 6
  simp only [List.getElem?_toArray, List.getElem?_cons_succ, List.getElem?_cons_zero] at c0 c1 c2 c3 c4 c5 c6
  have d0 := (unhide A).cell 0
  have d1 := (unhide A).cell 1
  have d2 := (unhide A).cell 2
  have d3 := (unhide A).cell 3
  have d4 := (unhide A).cell 4
  have d5 := (unhide A).cell 5
  have d6 := (unhide A).cell 6
  simp only [List.getElem?_toArray, List.getElem?_cons_succ, List.getElem?_cons_zero] at d0 d1 d2 d3 d4 d5 d6
  go_wp2_with fail
  clear c0 d0 c1 d1 c2 d2 c3 d3 c4 d4 c5 d5 c6 d6
  refine (eqMemMember_same ⟨inn, mw, mk, mo, me, mi, mt⟩ _ _ _ _ _ (unhide G).srow (unhide G).mrow (unhide W).srow (unhide W).mrow).mono ?_
  rintro e w10 ⟨rfl, hb⟩
  replace Z := hide ((unhide Z).below hb)
  replace W := hide ((unhide W).below hb)
  replace A := hide ((unhide A).below hb)
  replace G := hide ((unhide G).below hb)
  replace C := hide ((unhide C).below hb)
  replace HB := hide (HB.out.trans (hb.mono HB.out.size))
  clear hb
  have L1 := hide (load_mm (unhide C) rfl)
  go_wp2_with (refine wpList_load_whole rfl 35 _ rfl ⟨w5.heap.size, 0, none⟩ rfl _ (by exact unhide L1) ?_)
  clear L1
  refine (markMemMember_any (w4.heap.size + 1) ⟨inn, mw, mk, mo, me, mi, mt⟩ _ _ 1 _ (unhide G).1.1 (unhide G).2.1 (by omega) (by omega) (by simp only; omega) (by simp only; omega)).mono ?_
  rintro e w11 ⟨rfl, ho4, hp4, hs4, u4, hg1, hg2⟩
  simp only at ho4 hp4
  have o1 := RowIn.out (unhide G).1
  have o2 := RowIn.out (unhide G).2
  have hsz := HB.out.size
  replace Z := hide (((unhide Z).kept hg1 (fun q => by have := o1 _ q.symm; omega)).kept hg2 (fun q => by have := o2 _ q.symm; omega))
  replace A := hide (((unhide A).kept hg1 (fun q => by have := o1 _ q.symm; omega)).kept hg2 (fun q => by have := o2 _ q.symm; omega))
  replace C := hide (((unhide C).kept hg1 (fun q => by have := o1 _ q.symm; omega)).kept hg2 (fun q => by have := o2 _ q.symm; omega))
  replace W := hide (((unhide W).grown hg1 (fun k hk => by have := o1 k hk; omega)).grown hg2 (fun k hk => by have := o2 k hk; omega))
  replace HB : Hid (Below w.heap.size w w11) := (HB.out.grown hg1 hsz (fun k hk => by have := o1 k hk; omega)).grown hg2 (Nat.le_trans hsz hg1.size) (fun k hk => by have := o2 k hk; omega)
  have q1 : w11.ownsRow (w4.heap.size + 1) 9 1 (.slice a9 mk.length p9) mk.length ((marks 1 mk.length).map Value.string) := by have := ho4; unfold Own at this; rw [marks_len] at this; exact this
  have q2 : w11.ownsRow (w4.heap.size + 1) 60 2 (.slice a10 mo.length p10) mo.length (mcells (mmarks (1 + mk.length) mo.length)) := by have := hp4; unfold OwnM at this; rw [mmarks_len] at this; exact this
  have G4 := hide (And.intro q1 q2)
  clear ho4 hp4 hg1 hg2 o1 o2 q1 q2 G hsz
  obtain ⟨y, hy⟩ : ∃ y : Int, ((1 + mk.length + 2 * mo.length : Nat) : Int) = y := ⟨_, rfl⟩
  rw [hy]
  have hy0 : decide (y < 0) = false := by simp; omega
  have HY := hide hy
  clear hy
  have HH : Hid (∀ u : World, Below w11.heap.size w11 u → Calls Tryz.prog 12 #[.agg (memC inn mw (.slice a9 mk.length p9) (.slice a10 mo.length p10) me mi mt), .int .i64 1] u fun e w' => e = .returned (.int .i64 y) ∧ Below u.heap.size u w') := by
    intro u hu
    have r1 : SRow u (.slice a9 mk.length p9) (marks 1 mk.length) := own_srow (base := w4.heap.size + 1) (by rw [marks_len]; exact own_below' (unhide G4).1 hu)
    have r2 : MRow u (.slice a10 mo.length p10) (mmarks (1 + mk.length) mo.length) := OwnM.mrow (B := w4.heap.size + 1) (by unfold OwnM; rw [mmarks_len]; exact own_below' (unhide G4).2 hu)
    have := heldMemMember_any inn mw me mi mt mk.length mo.length _ _ 1 u r1 r2 (by omega) (by omega) (by omega) (by omega)
    rw [HY.out] at this
    exact this
  have H4 : Hid (Below w11.heap.size w11 w11) := Below.refl _ _
  have L1 := hide (load_mm (unhide C) rfl)
  go_wp2_with (refine wpList_load_whole rfl 35 _ rfl ⟨w5.heap.size, 0, none⟩ rfl _ (by exact unhide L1) ?_)
  clear L1
  refine (HH.out _ (unhide H4)).mono ?_
  rintro e w12 ⟨rfl, hb⟩
  replace H4 := hide (H4.out.trans (hb.mono H4.out.size))
  replace Z := hide ((unhide Z).below hb)
  replace W := hide ((unhide W).below hb)
  replace A := hide ((unhide A).below hb)
  replace C := hide ((unhide C).below hb)
  replace HB := hide (HB.out.trans (hb.mono HB.out.size))
  clear hb
  have L1 := hide (load_lc (unhide Z) rfl)
  go_wp2_with (refine wpList_load_whole rfl 29 _ rfl ⟨w.heap.size, 0, none⟩ rfl _ (by exact unhide L1) ?_)
  clear L1
  refine (HTO.out _ (unhide HB)).mono ?_
  rintro e w13 ⟨ks6, bs6, rfl, o1, o2, hb⟩
  have S1 := hide o1.srow
  have S2 := hide o2.brow
  obtain ⟨a11, p11, hv⟩ := row_form' o1
  subst hv
  obtain ⟨a12, p12, hv⟩ := row_form' o2
  subst hv
  clear o1 o2
  replace H4 := hide (H4.out.trans (hb.mono H4.out.size))
  replace Z := hide ((unhide Z).below hb)
  replace W := hide ((unhide W).below hb)
  replace A := hide ((unhide A).below hb)
  replace C := hide ((unhide C).below hb)
  replace HB := hide (HB.out.trans (hb.mono HB.out.size))
  clear hb
  go_wp2_with fail
  refine (HIP.out _ _ _ (unhide S1) (unhide S2)).mono ?_
  rintro e w14 ⟨ks7, os7, rfl, o1, o2, hb⟩
  obtain ⟨a13, p13, hv⟩ := row_form' o1
  subst hv
  obtain ⟨a14, p14, hv⟩ := row_form' o2
  subst hv
  have S5 := hide o1.srow
  have S6 := hide o2.mrow
  clear o1 o2 S1 S2
  replace H4 := hide (H4.out.trans (hb.mono H4.out.size))
  replace Z := hide ((unhide Z).below hb)
  replace W := hide ((unhide W).below hb)
  replace A := hide ((unhide A).below hb)
  replace C := hide ((unhide C).below hb)
  replace HB := hide (HB.out.trans (hb.mono HB.out.size))
  clear hb
  have hb := (Below.refl w14.heap.size w14).alloc (Nat.le_refl _) (.cells (memC inn mw (.slice a13 mk.length p13) (.slice a14 mo.length p14) me mi mt) 35)
  have D := hide (Blk.new w14 35 (memC inn mw (.slice a13 mk.length p13) (.slice a14 mo.length p14) me mi mt))
  replace H4 := hide (H4.out.trans (hb.mono H4.out.size))
  replace Z := hide ((unhide Z).below hb)
  replace W := hide ((unhide W).below hb)
  replace A := hide ((unhide A).below hb)
  replace C := hide ((unhide C).below hb)
  replace S5 := hide ((unhide S5).below hb)
  replace S6 := hide ((unhide S6).below hb)
  replace HB := hide (HB.out.trans (hb.mono HB.out.size))
  clear hb
  have L1 := hide (load_mm (unhide D) rfl)
  have L2 := hide (load_mm (unhide A) rfl)
  go_wp2_with (first | refine wpList_load_whole rfl 35 _ rfl ⟨w14.heap.size, 0, none⟩ rfl _ (by exact unhide L1) ?_ | refine wpList_load_whole rfl 35 _ rfl ⟨w3.heap.size, 0, none⟩ rfl _ (by exact unhide L2) ?_)
  clear L1 L2
  refine (eqMemMember_same ⟨inn, mw, mk, mo, me, mi, mt⟩ _ _ _ _ _ (unhide S5) (unhide S6) (unhide W).srow (unhide W).mrow).mono ?_
  rintro e w15 ⟨rfl, hb⟩
  replace H4 := hide (H4.out.trans (hb.mono H4.out.size))
  replace Z := hide ((unhide Z).below hb)
  replace W := hide ((unhide W).below hb)
  replace A := hide ((unhide A).below hb)
  replace C := hide ((unhide C).below hb)
  replace S5 := hide ((unhide S5).below hb)
  replace S6 := hide ((unhide S6).below hb)
  replace D := hide ((unhide D).below hb)
  replace HB := hide (HB.out.trans (hb.mono HB.out.size))
  clear hb
  have L1 := hide (load_mm (unhide C) rfl)
  go_wp2_with (refine wpList_load_whole rfl 35 _ rfl ⟨w5.heap.size, 0, none⟩ rfl _ (by exact unhide L1) ?_)
  clear L1
  refine (HH.out _ (unhide H4)).mono ?_
  rintro e w16 ⟨rfl, hb⟩
  replace H4 := hide (H4.out.trans (hb.mono H4.out.size))
  replace Z := hide ((unhide Z).below hb)
  replace W := hide ((unhide W).below hb)
  replace A := hide ((unhide A).below hb)
  replace C := hide ((unhide C).below hb)
  replace S5 := hide ((unhide S5).below hb)
  replace S6 := hide ((unhide S6).below hb)
  replace D := hide ((unhide D).below hb)
  replace HB := hide (HB.out.trans (hb.mono HB.out.size))
  clear hb
  go_wp2_with fail
  go_ret
  exact ⟨rfl, unhide HB⟩

set_option maxRecDepth 100000 in
theorem lifted_FnExactMemJoin (os : Os) (started : os.Started) (H : Type) (enc : TypeId × Value → H) :
    ReturnsInHanded {} Tryz.checked os 3 .any (Rows.fnExactMemJoinSpec.pre6 enc Tryz.prog Tryz.f3 Rows.fnExactMemJoinRow.domain false) (Rows.fnExactMemJoinSpec.post enc Tryz.prog Tryz.f3 false true false false) := by
  refine returnsInHanded_of_change (C := Tryz.checked) own started (by kernel_rfl) Tryz.func3
    (ChangeSpec.witness6 (enc := enc) (C := Tryz.checked) false ⟨#[], #[.int .i64 0, .string ByteArray.empty, .string ByteArray.empty, .agg #[.int .i64 0, .string ByteArray.empty, .string ByteArray.empty, .int .i64 0, .int .i64 0, .string ByteArray.empty, .slice none 0 0, .slice none 0 0, .string ByteArray.empty, .string ByteArray.empty, .string ByteArray.empty, .string ByteArray.empty, .string ByteArray.empty]], []⟩ 8 (by kernel_rfl) (by kernel_rfl) (by kernel_rfl) (by kernel_rfl)) ?_
  intro W base args ds gs before hval0 hW hcnd _
  have hval : ∀ (j : Nat) t v, Tryz.f3.params[j]? = some t → args[j]? = some v → Value.okWide Tryz.prog W .any base t v := hval0
  have hW' := hW
  obtain ⟨p, q, hA0, hV, rfl, hfz, hnd⟩ := hW
  have hA : DataW.TrodAll enc Tryz.prog W 0 (fun _ => true) true Tryz.f3.params.toList args.toList ds p := hA0
  rw [Tryz.params3] at hA hval
  obtain ⟨v0, vs0, d0, ds0, p0, q0, hargs, rfl, rfl, h0, r0⟩ := trodAll_cons hA
  obtain ⟨v1, vs1, d1, ds1, p1, q1, rfl, rfl, rfl, h1, r1⟩ := trodAll_cons r0
  obtain ⟨v2, vs2, d2, ds2, p2, q2, rfl, rfl, rfl, h2, r2⟩ := trodAll_cons r1
  obtain ⟨v3, vs3, d3, ds3, p3, q3, rfl, rfl, rfl, h3, r3⟩ := trodAll_cons r2
  obtain ⟨rfl, rfl, rfl⟩ := trodAll_nil r3
  obtain rfl : args = #[v0, v1, v2, v3] := by cases args; simp_all
  obtain ⟨rfl, rfl⟩ := trodVars_none hV
  obtain ⟨a0, rfl, rfl, rfl, w0⟩ := open_int Tryz.underlying3 (hval 0 3 v0 rfl rfl) h0
  obtain ⟨a1, rfl, rfl, rfl, w1⟩ := open_string Tryz.underlying9 (hval 1 9 v1 rfl rfl) h1
  obtain ⟨a2, rfl, rfl, rfl, w2⟩ := open_string Tryz.underlying9 (hval 2 9 v2 rfl rfl) h2
  obtain ⟨c3, rfl, hc3⟩ := okWide_struct Tryz.underlying29 (hval 3 29 v3 rfl rfl)
  have k3 := h3
  have lt3 : ∀ x ∈ p3, x.block < W.heap.size := by obtain ⟨m, hm⟩ := k3; exact DataW.trod_lt m _ _ _ hm
  obtain ⟨m3, u3, z3, rfl, w3, x3, y3⟩ : ∃ (m : Cmt) (ks bs : Value), c3 = m.cells ks bs ∧ SRow W ks m.keys ∧ BRow W bs m.boxes ∧ CmtFit m := by
    obtain ⟨fuel, hf⟩ := h3
    exact open_commit hc3 hf
  clear hA0 hval0
  refine (walk_FnExactMemJoin a0 a1 a2 m3 u3 z3 W w0 w1 w2 w3 x3 y3).mono fun e W' ⟨he, bel⟩ => ?_
  subst he
  exact ⟨_, rfl, _, _, _, [], _, [], hW', trodAll_mk1 (shut_bool Tryz.underlying4 _), (trodAll_cons_mk (shut_int Tryz.underlying3 w0) (trodAll_cons_mk (shut_string Tryz.underlying9 w1) (trodAll_cons_mk (shut_string Tryz.underlying9 w2) (trodAll_cons_mk (Below.trod laidOut (by kernel_rfl) (of_decide_eq_true (by kernel_rfl)) k3 bel lt3) trodAll_mk0)))), rfl, bel.frame _, fun h => by cases h⟩

theorem fnExactMemJoin_holds : Rows.FnExactMemJoinSaid :=
  OpenClaim.holds_of_wide 3 Tryz.f3 rfl rfl rfl rfl rfl rfl rfl ⟨rfl, rfl, rfl, rfl, rfl⟩ rfl rfl rfl rfl rfl (by kernel_rfl) Tryz.func3 (by kernel_rfl)
    (of_decide_eq_true (by kernel_rfl)) (by unfold Func.isWrapper; first | (rw [if_pos (by decide +kernel)]; kernel_rfl) | (rw [if_neg (by decide +kernel)]; exact ⟨rfl, rfl⟩))
    (fun os started H enc _ => lifted_FnExactMemJoin os started H enc)

#print axioms fnExactMemJoin_holds
end Go.Proofs.YteiojanamkndmaaGreat
