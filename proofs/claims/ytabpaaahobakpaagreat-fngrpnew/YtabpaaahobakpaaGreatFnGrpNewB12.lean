/-
 The specification's GrpNew, of one of the group.
-/
import Derived.Test.YtabpaaahobakpaaGreatFnGrpNewB2
import Derived.Test.YtabpaaahobakpaaGreatFnGrpNewB8
import Derived.Test.YtabpaaahobakpaaGreatFnGrpNewB10
import Derived.Test.YtabpaaahobakpaaGreatFnGrpNewB9
import Derived.Test.YtabpaaahobakpaaGreatFnGrpNewB11
import Derived.Test.YtabpaaahobakpaaGreatFnGrpNewB3
namespace Go.Proofs.YtabpaaahobakpaaGreat
open Go.RowKit
set_option maxRecDepth 100000 in
set_option maxHeartbeats 32000000 in
theorem sGrpNew_any (who : Nat) (w : World) (hw : who < 8) (L0 : List Nat) (h0 : ∀ b ∈ L0, b < w.heap.size) :
 Calls Tryz.prog 8 #[.int .i64 (who : Int)] w fun e w' => ∃ X' t0 t1 t2 t3 t4 t5 t6 t7 t8 t9, e = .returned (.agg (wldC t0 t1 t2 t3 t4 t5 t6 t7 t8 t9)) ∧ Rows X' L0 w.heap.size w' (rowsOf t0 t1 t2 t3 t4 t5 t6 t7 t8 t9 (newW who)) ∧ Below w.heap.size w w' := by
 have HWH := hide hw
 have H0 := hide h0
 clear h0
 have hin : inB 0 7 (who : Int) = true := by unfold inB; simp; omega
 clear hw
 have HB : Hid (Below w.heap.size w w) := Below.refl _ _
 have HN : Hid (True) := trivial
 go_enter Tryz.func8, Tryz.ntmps8
 -- #1
 repeat ((fail_if_success (refine pl_id ?_)); go_step)
 refine w_i ?_
 refine w_1 (fun K hK => ?_)
 refine op_alloc (cs := noWld) (t := 34) ?_ (fun bR wc R hb hbn => ?_)
 · go_simp
   try rfl
 refine hK.out _ _ ?_
 clear hK
 replace R := hide R
 have hsz := hb.size
 have hsz2 := HB.out.size
 replace HN := hide (And.intro HN.out (And.intro hsz hbn))
 clear hsz hsz2
 replace HB := hide (HB.out.trans (hb.mono HB.out.size))
 clear hb
 clear hbn
 try simp only [Act.put, List.setIfInBounds_toArray, List.set_cons_zero, List.set_cons_succ]
 refine w_e ?_
 -- #2
 repeat ((fail_if_success (refine pl_id ?_)); go_step)
 refine w_i ?_
 refine w_q ?_
 refine w_1 (fun K hK => ?_)
 go_simp
 refine (l1In_any (who : Int) 0 7 _).mono ?_
 rw [hin]
 rintro e wz ⟨rfl, hz⟩
 replace hz := hz.symm
 subst hz
 go_simp
 refine hK.out _ _ ?_
 clear hK
 try simp only [Act.put, List.setIfInBounds_toArray, List.set_cons_zero, List.set_cons_succ]
 refine w_q ?_
 refine w_e ?_
 -- #3
 repeat ((fail_if_success (refine pl_id ?_)); go_step)
 refine w_i ?_
 refine w_q ?_
 refine w_1 (fun K hK => ?_)
 refine op_alloc (cs := noWld) (t := 34) ?_ (fun bXB wc XB hb hbn => ?_)
 · go_simp
   try rfl
 refine hK.out _ _ ?_
 clear hK
 replace XB := hide XB
 replace R := hide ((unhide R).below hb)
 have hsz := hb.size
 have hsz2 := HB.out.size
 replace HN := hide (And.intro HN.out (And.intro hsz hbn))
 clear hsz hsz2
 replace HB := hide (HB.out.trans (hb.mono HB.out.size))
 clear hb
 clear hbn
 try simp only [Act.put, List.setIfInBounds_toArray, List.set_cons_zero, List.set_cons_succ]
 refine w_1 (fun K hK => ?_)
 have OLD := XB
 refine op_row 34 (.tmp 3) (.tmp 11) rfl bXB noWld _ 34 rfl rfl (unhide XB) info_wld rfl (by simp [Value.oneCell']) (fun wc NEW hg hs => ?_)
 refine hK.out _ _ ?_
 clear hK
 replace XB := hide NEW
 clear NEW
 replace R := hide (blk_grown (unhide R) hg (by have q := HN.out; omega))
 replace HB := hide (below_grown HB.out hg HB.out.size (by have q := HN.out; omega))
 replace HN : Hid (w.heap.size ≤ bR ∧ bR < bXB ∧ w.heap.size ≤ bXB ∧ bR < wc.heap.size ∧ bXB < wc.heap.size) := by
  have q := HN.out
  have q2 := hs
  refine hide ?_
  omega
 clear hg hs OLD
 try simp only [Act.put]
 refine w_e ?_
 obtain ⟨X2, hw⟩ := rows_none (B := w.heap.size) (w := wc) (bXB :: bR :: L0) (fun b hb => by
  have q := HN.out
  have q2 := HB.out.size
  simp only [List.mem_cons] at hb
  rcases hb with rfl | rfl | hb
  · omega
  · omega
  · have := H0.out b hb; omega)
 have HW : Hid (Rows X2 (bXB :: bR :: L0) w.heap.size wc (rowsOf (.slice Option.none 0 0) (.slice Option.none 0 0) (.slice Option.none 0 0) (.slice Option.none 0 0) (.slice Option.none 0 0) (.slice Option.none 0 0) (.slice Option.none 0 0) (.slice Option.none 0 0) (.slice Option.none 0 0) (.slice Option.none 0 0) (newN who 0))) := hide hw
 clear hw
 have HR : Hid (KeepR (rowsOf (.slice Option.none 0 0) (.slice Option.none 0 0) (.slice Option.none 0 0) (.slice Option.none 0 0) (.slice Option.none 0 0) (.slice Option.none 0 0) (.slice Option.none 0 0) (.slice Option.none 0 0) (.slice Option.none 0 0) (.slice Option.none 0 0) Wld.none) w wc) := hide ((KeepR.refl _ _).below HB.out)
 -- #4
 repeat ((fail_if_success (refine pl_id ?_)); go_step)
 refine w_i ?_
 refine w_q ?_
 refine w_e ?_
 go_wp2_with fail
 go_loopw [4] (fun i wr => ∃ (j : Nat) (_ : j ≤ 8) (so : Option Addr) (sc : Nat) (fo : Option Addr) (fc : Nat) (ho : Option Addr) (hc : Nat) (io : Option Addr) (ic : Nat) (X2 : List Nat), i = .int .i64 (j : Int) ∧ Hid (Blk wr bR 34 noWld) ∧ Hid (Blk wr bXB 34 (wldC (.slice so j sc) (.slice Option.none 0 0) (.slice Option.none 0 0) (.slice fo j fc) (.slice Option.none 0 0) (.slice Option.none 0 0) (.slice Option.none 0 0) (.slice ho j hc) (.slice io j ic) (.slice Option.none 0 0))) ∧ Hid (w.heap.size ≤ bR ∧ bR < bXB ∧ w.heap.size ≤ bXB ∧ bR < wr.heap.size ∧ bXB < wr.heap.size) ∧ Hid (KeepR (rowsOf (.slice Option.none 0 0) (.slice Option.none 0 0) (.slice Option.none 0 0) (.slice Option.none 0 0) (.slice Option.none 0 0) (.slice Option.none 0 0) (.slice Option.none 0 0) (.slice Option.none 0 0) (.slice Option.none 0 0) (.slice Option.none 0 0) Wld.none) w wr) ∧ Hid (Rows X2 (bXB :: bR :: L0) w.heap.size wr (rowsOf (.slice so j sc) (.slice Option.none 0 0) (.slice Option.none 0 0) (.slice fo j fc) (.slice Option.none 0 0) (.slice Option.none 0 0) (.slice Option.none 0 0) (.slice ho j hc) (.slice io j ic) (.slice Option.none 0 0) (newN who j))) ∧ Hid (Below w.heap.size w wr)) (fun i _ => 8 - (intOf i).toNat)
 case atStart => exact ⟨0, by omega, Option.none, 0, Option.none, 0, Option.none, 0, Option.none, 0, _, rfl, R, XB, HN, HR, HW, HB⟩
 case round =>
  clear R XB HN HR HW HB
  obtain ⟨j, hj, so, sc, fo, fc, ho, hc, io, ic, X2, rfl, R, XB, HN, HR, HW, HB⟩ := hrel
  generalize wr = wc at *
  by_cases hlt : j < 8
  · skip
    have hlt2 : decide ((j : Int) < 8) = true := by simp; omega
    have hlt3 : (j : Int) < 8 := by omega
    have i3 : IntKind.i64.wrap ((j : Int) + 1) = (j : Int) + 1 := by simp [IntKind.wrap, IntKind.bits, IntKind.signed]; omega
    have HLJ := hide (newN_len who j)
    have HNX := hide (newN_next who j)
    -- #5
    repeat ((fail_if_success (refine pl_id ?_)); go_step)
    refine w_i ?_
    refine w_q ?_; refine w_q ?_
    refine w_e ?_
    -- #6
    repeat ((fail_if_success (refine pl_id ?_)); go_step)
    refine w_i ?_
    refine w_q ?_
    refine w_1 (fun K hK => ?_)
    refine op_alloc (cs := noMem) (t := 42) ?_ (fun bM wc M hb hbn => ?_)
    · go_simp
      try rfl
    refine hK.out _ _ ?_
    clear hK
    replace M := hide M
    replace R := hide ((unhide R).below hb)
    replace XB := hide ((unhide XB).below hb)
    replace HR := hide ((unhide HR).below hb)
    obtain ⟨X2, HW2, hm2⟩ := (unhide HW).more2 hb hbn
    replace HW := hide HW2
    clear HW2 hm2
    have hsz := hb.size
    have hsz2 := HB.out.size
    replace HN := hide (And.intro HN.out (And.intro hsz hbn))
    clear hsz hsz2
    replace HB := hide (HB.out.trans (hb.mono HB.out.size))
    clear hb
    clear hbn
    try simp only [Act.put, List.setIfInBounds_toArray, List.set_cons_zero, List.set_cons_succ]
    refine w_1 (fun K hK => ?_)
    have OLD := M
    refine op_row 42 (.tmp 5) (.tmp 16) rfl bM noMem _ 42 rfl rfl (unhide M) info_mm rfl (by simp [Value.oneCell']) (fun wc NEW hg hs => ?_)
    refine hK.out _ _ ?_
    clear hK
    replace M := hide NEW
    clear NEW
    replace R := hide (blk_grown (unhide R) hg (by have q := HN.out; omega))
    replace XB := hide (blk_grown (unhide XB) hg (by have q := HN.out; omega))
    replace HR := hide ((unhide HR).new hg (by have q := HN.out; omega))
    replace HW := hide ((unhide HW).other hg (by simp))
    replace HB := hide (below_grown HB.out hg HB.out.size (by have q := HN.out; omega))
    replace HN := hide (And.intro HN.out hs)
    clear hg hs OLD
    try simp only [Act.put]
    refine w_e ?_
    -- #7
    repeat ((fail_if_success (refine pl_id ?_)); go_step)
    refine w_i ?_
    refine w_q ?_
    refine w_e ?_
    by_cases hjw : j = who
    · have q1 : ((j : Int) == (who : Int)) = true := by simp; omega
      have q2 : decide ((j : Int) = (who : Int)) = true := by simp; omega
      have q3 : (j : Int) = (who : Int) := by omega
      have HJW := hide hjw
      clear hjw
      -- #8
      repeat ((fail_if_success (refine pl_id ?_)); go_step)
      refine w_i ?_
      (iterate 3 refine w_q ?_)
      refine w_e ?_
      obtain ⟨fm, hfm⟩ : ∃ x, fstOf (who : Int) (mkNew (who : Int) 1) (mkNew (who : Int) 2) = x := ⟨_, rfl⟩
      have HFM := hide hfm
      clear hfm q1 q2 q3
      obtain ⟨m1, m2, mk, mo, m3, m4, m5⟩ := fm
      obtain ⟨kl, hkl⟩ : ∃ n, mk.length = n := ⟨_, rfl⟩
      obtain ⟨ol, hol⟩ : ∃ n, mo.length = n := ⟨_, rfl⟩
      have HKL := hide hkl
      have HOL := hide hol
      clear hkl hol
      -- #9
      repeat ((fail_if_success (refine pl_id ?_)); go_step)
      refine w_i ?_
      refine w_q ?_; refine w_q ?_
      refine w_1 (fun K hK => ?_)
      go_simp
      refine (sMakNew_any (who : Int) 1 _).mono ?_
      rintro e wc ⟨rfl, hb⟩
      go_simp
      refine hK.out _ _ ?_
      clear hK
      replace R := hide ((unhide R).below hb)
      replace XB := hide ((unhide XB).below hb)
      replace M := hide ((unhide M).below hb)
      replace HR := hide ((unhide HR).below hb)
      replace HW := hide ((unhide HW).below hb)
      have hsz := hb.size
      have hsz2 := HB.out.size
      replace HN := hide (And.intro HN.out hsz)
      clear hsz hsz2
      replace HB := hide (HB.out.trans (hb.mono HB.out.size))
      clear hb
      try simp only [Act.put, List.setIfInBounds_toArray, List.set_cons_zero, List.set_cons_succ]
      refine w_q ?_
      refine w_1 (fun K hK => ?_)
      go_simp
      refine (sMakNew_any (who : Int) 2 _).mono ?_
      rintro e wc ⟨rfl, hb⟩
      go_simp
      refine hK.out _ _ ?_
      clear hK
      replace R := hide ((unhide R).below hb)
      replace XB := hide ((unhide XB).below hb)
      replace M := hide ((unhide M).below hb)
      replace HR := hide ((unhide HR).below hb)
      replace HW := hide ((unhide HW).below hb)
      have hsz := hb.size
      have hsz2 := HB.out.size
      replace HN := hide (And.intro HN.out hsz)
      clear hsz hsz2
      replace HB := hide (HB.out.trans (hb.mono HB.out.size))
      clear hb
      try simp only [Act.put, List.setIfInBounds_toArray, List.set_cons_zero, List.set_cons_succ]
      refine w_1 (fun K hK => ?_)
      go_simp
      refine (sMemFirst_any (who : Int) (mkNew (who : Int) 1) (mkNew (who : Int) 2) _ (mkNew_max _ _) (mkNew_max _ _)).mono ?_
      rw [HFM.out]
      rintro e wc ⟨v, rfl, ⟨ks1, os1, rfl, q1, q2⟩, hb⟩
      unfold Own at q1
      unfold OwnM at q2
      simp only at q1 q2 ⊢
      rw [HKL.out] at q1
      rw [HOL.out] at q2
      have IX1 := hide ((unhide HW).fresh q1)
      have IX2 := hide ((unhide HW).fresh q2)
      obtain ⟨k1, kc1, rfl⟩ := row_form' q1
      obtain ⟨o1, oc1, rfl⟩ := row_form' q2
      have K1 := hide (row_lowB (B' := 0) q1 (Nat.zero_le _))
      have K2 := hide (row_lowB (B' := 0) q2 (Nat.zero_le _))
      clear q1 q2
      go_simp
      refine hK.out _ _ ?_
      clear hK
      replace R := hide ((unhide R).below hb)
      replace XB := hide ((unhide XB).below hb)
      replace M := hide ((unhide M).below hb)
      replace HR := hide ((unhide HR).below hb)
      replace HW := hide ((unhide HW).below hb)
      have hsz := hb.size
      have hsz2 := HB.out.size
      replace HN := hide (And.intro HN.out hsz)
      clear hsz hsz2
      replace HB := hide (HB.out.trans (hb.mono HB.out.size))
      clear hb
      try simp only [Act.put, List.setIfInBounds_toArray, List.set_cons_zero, List.set_cons_succ]
      refine w_1 (fun K hK => ?_)
      have OLD := M
      refine op_row 42 (.tmp 5) (.tmp 25) rfl bM (memC m1 m2 (.slice k1 kl kc1) (.slice o1 ol oc1) m3 m4 m5) _ 42 rfl rfl (unhide M) info_mm rfl (one_mm _ _ _ _ _ _ _ _ _ _ _) (fun wc NEW hg hs => ?_)
      refine hK.out _ _ ?_
      clear hK
      replace M := hide NEW
      clear NEW
      replace R := hide (blk_grown (unhide R) hg (by have q := HN.out; omega))
      replace XB := hide (blk_grown (unhide XB) hg (by have q := HN.out; omega))
      replace K1 := hide (row_grown (unhide K1) hg (unhide OLD) (by decide))
      replace K2 := hide (row_grown (unhide K2) hg (unhide OLD) (by decide))
      replace IX1 := hide (InX.keep (unhide IX1) (KeepX.grown hg (fun z hz => by cases hz; exact (unhide HW).inL (by simp))) (MoreX.refl _ _))
      replace IX2 := hide (InX.keep (unhide IX2) (KeepX.grown hg (fun z hz => by cases hz; exact (unhide HW).inL (by simp))) (MoreX.refl _ _))
      replace HR := hide ((unhide HR).new hg (by have q := HN.out; omega))
      replace HW := hide ((unhide HW).other hg (by simp))
      replace HB := hide (below_grown HB.out hg HB.out.size (by have q := HN.out; omega))
      replace HN := hide (And.intro HN.out hs)
      clear hg hs OLD
      try simp only [Act.put]
      refine w_e ?_
      -- #10
      repeat ((fail_if_success (refine pl_id ?_)); go_step)
      refine w_i ?_
      refine w_q ?_
      refine w_e ?_
      -- #11
      repeat ((fail_if_success (refine pl_id ?_)); go_step)
      refine w_i ?_
      refine w_q ?_
      refine w_q ?_ (h := by have x := XB.out.g 0; go_simp; all_goals rfl)
      refine w_q ?_ (h := by have x := M.out.c7; go_simp; all_goals rfl)
      refine w_1 (fun K hK => ?_)
      refine op_lit (w.heap.size) (cs := (memC m1 m2 (.slice k1 kl kc1) (.slice o1 ol oc1) m3 m4 m5)) (e := 42) (size := 7) (n := 1) ?_ HB.out.size (by unfold maxLen; omega) (by rfl) (fun gLT wc LT hb hbn => ?_)
      · go_simp
        try rfl
      refine hK.out _ _ ?_
      clear hK
      replace LT := hide LT
      replace R := hide ((unhide R).below hb)
      replace XB := hide ((unhide XB).below hb)
      replace M := hide ((unhide M).below hb)
      replace K1 := hide (own_below' (unhide K1) hb)
      replace K2 := hide (own_below' (unhide K2) hb)
      replace HR := hide ((unhide HR).below hb)
      replace IX1 := hide (InX.keep (unhide IX1) (KeepX.below hb) (MoreX.refl _ _))
      replace IX2 := hide (InX.keep (unhide IX2) (KeepX.below hb) (MoreX.refl _ _))
      replace HW := hide ((unhide HW).below hb)
      have hsz := hb.size
      have hsz2 := HB.out.size
      replace HN := hide (And.intro HN.out (And.intro hsz hbn))
      clear hsz hsz2
      replace HB := hide (HB.out.trans (hb.mono HB.out.size))
      clear hb
      clear hbn
      try simp only [Act.put, List.setIfInBounds_toArray, List.set_cons_zero, List.set_cons_succ]
      refine w_1 (fun K hK => ?_)
      obtain ⟨cs, h1, h2⟩ := (unhide HW).appSeats
      rw [HLJ.out.1] at h1
      refine op_appOwn rowT_mm w.heap.size (.tmp 27) (.tmp 29) rfl (.slice so j sc) j cs rfl h1 ⟨gLT, 0, none⟩ 1 1 (memC m1 m2 (.slice k1 kl kc1) (.slice o1 ol oc1) m3 m4 m5).toList rfl rfl (fun k u hk => World.ownsRow.cells (unhide LT) rfl k u hk) (by simp [Value.oneCell']) (by unfold maxLen; omega) (by omega) HB.out.size (fun vo wc ho hg hat => ?_)
      refine hK.out _ _ ?_
      clear hK
      obtain ⟨X3, HW2, -⟩ := h2 ⟨m1, m2, mk, mo, m3, m4, m5⟩ _ _ vo wc (srow_of (unhide K1) HKL.out) (rowR_of (unhide K2) HOL.out) (unhide IX1) (unhide IX2) (by rw [HLJ.out.1]; exact ho) hg hat
      clear h2
      obtain ⟨nso, nsc, rfl⟩ := row_form' ho
      replace R := hide ((unhide R).kept hg (fun q => ((unhide HW).loc bR (by simp)).2 _ (List.mem_of_getElem? (i := 0) rfl) q.symm))
      replace XB := hide ((unhide XB).kept hg (fun q => ((unhide HW).loc bXB (by simp)).2 _ (List.mem_of_getElem? (i := 0) rfl) q.symm))
      replace M := hide ((unhide M).kept hg (fun q => ((unhide HW).loc bM (by simp)).2 _ (List.mem_of_getElem? (i := 0) rfl) q.symm))
      replace HR := hide ((unhide HR).row hg (fun z hz => .inl (h1.lt z hz).1))
      have hsz := hg.size
      replace HB := hide (kept_below HB.out hg h1 (Nat.le_refl _) HB.out.size)
      clear LT
      clear K1
      clear K2
      clear IX1
      clear IX2
      replace HN := hide (And.intro HN.out hsz)
      clear hsz hg hat ho h1
      obtain ⟨Wa, hWa⟩ : ∃ x, ({ newN who j with seats := (newN who j).seats ++ [⟨m1, m2, mk, mo, m3, m4, m5⟩] } : Wld) = x := ⟨_, rfl⟩
      rw [hWa] at HW2
      have HWa := hide hWa
      clear hWa
      replace HW := hide HW2
      clear HW2
      try simp only [Act.put, List.setIfInBounds_toArray, List.set_cons_zero, List.set_cons_succ]
      refine w_q ?_
      refine w_1 (fun K hK => ?_)
      have OLD := XB
      have fz := (unhide XB).frozen 0
      have x0 := (unhide XB).cell 0
      simp only [List.getElem?_toArray, List.getElem?_cons_zero] at x0
      refine op_cell bXB 0 (.slice nso (j + 1) nsc) (unhide XB) ?_ (fun wc NEW hg hs => ?_)
      · go_simp
      refine hK.out _ _ ?_
      clear hK
      clear fz x0
      replace XB : Hid (Blk wc bXB 34 (wldC (.slice nso (j + 1) nsc) (.slice Option.none 0 0) (.slice Option.none 0 0) (.slice fo j fc) (.slice Option.none 0 0) (.slice Option.none 0 0) (.slice Option.none 0 0) (.slice ho j hc) (.slice io j ic) (.slice Option.none 0 0))) := NEW
      clear NEW
      replace R := hide (blk_grown (unhide R) hg (by have q := HN.out; omega))
      replace M := hide (blk_grown (unhide M) hg (by have q := HN.out; omega))
      replace HR := hide ((unhide HR).new hg (by have q := HN.out; omega))
      replace HW := hide ((unhide HW).other hg (by simp))
      replace HB := hide (below_grown HB.out hg HB.out.size (by have q := HN.out; omega))
      replace HN := hide (And.intro HN.out hs)
      clear hg hs OLD
      try simp only [Act.put]
      refine w_e ?_
      clear M
      have HFa : Hid (Wa.fresh = (newN who j).fresh ∧ Wa.said = (newN who j).said ∧ Wa.wins = (newN who j).wins) := by rw [← HWa.out]; exact hide ⟨rfl, rfl, rfl⟩
      have HLa : Hid (Wa.fresh.length = j) := by rw [HFa.out.1]; exact hide HLJ.out.2.1
      -- #12
      repeat ((fail_if_success (refine pl_id ?_)); go_step)
      refine w_i ?_
      refine w_q ?_
      refine w_q ?_ (h := by have x := XB.out.g 3; go_simp; all_goals rfl)
      refine w_q ?_
      refine w_1 (fun K hK => ?_)
      refine op_lit (w.heap.size) (cs := #[.int .i64 2]) (e := 3) (size := 1) (n := 1) ?_ HB.out.size (by unfold maxLen; omega) (by rfl) (fun gLT wc LT hb hbn => ?_)
      · go_simp
        try rfl
      refine hK.out _ _ ?_
      clear hK
      replace LT := hide LT
      replace R := hide ((unhide R).below hb)
      replace XB := hide ((unhide XB).below hb)
      replace HR := hide ((unhide HR).below hb)
      replace HW := hide ((unhide HW).below hb)
      have hsz := hb.size
      have hsz2 := HB.out.size
      replace HN := hide (And.intro HN.out (And.intro hsz hbn))
      clear hsz hsz2
      replace HB := hide (HB.out.trans (hb.mono HB.out.size))
      clear hb
      clear hbn
      try simp only [Act.put, List.setIfInBounds_toArray, List.set_cons_zero, List.set_cons_succ]
      refine w_1 (fun K hK => ?_)
      obtain ⟨cs, h1, h2⟩ := (unhide HW).appFresh
      rw [HLa.out] at h1
      refine op_appOwn rowT_int w.heap.size (.tmp 33) (.tmp 35) rfl (.slice fo j fc) j cs rfl h1 ⟨gLT, 0, none⟩ 1 1 [.int .i64 2] rfl rfl (fun k u hk => World.ownsRow.cells (unhide LT) rfl k u hk) (by simp [Value.oneCell']) (by unfold maxLen; omega) (by omega) HB.out.size (fun vo wc ho hg hat => ?_)
      refine hK.out _ _ ?_
      clear hK
      obtain ⟨X3, HW2, -⟩ := h2 2 vo wc (by rw [HLa.out]; exact ho) hg hat
      clear h2
      obtain ⟨nfo, nfc, rfl⟩ := row_form' ho
      replace R := hide ((unhide R).kept hg (fun q => ((unhide HW).loc bR (by simp)).2 _ (List.mem_of_getElem? (i := 3) rfl) q.symm))
      replace XB := hide ((unhide XB).kept hg (fun q => ((unhide HW).loc bXB (by simp)).2 _ (List.mem_of_getElem? (i := 3) rfl) q.symm))
      replace HR := hide ((unhide HR).row hg (fun z hz => .inl (h1.lt z hz).1))
      have hsz := hg.size
      replace HB := hide (kept_below HB.out hg h1 (Nat.le_refl _) HB.out.size)
      clear LT
      replace HN := hide (And.intro HN.out hsz)
      clear hsz hg hat ho h1
      obtain ⟨Wb, hWb⟩ : ∃ x, ({ Wa with fresh := Wa.fresh ++ [2] } : Wld) = x := ⟨_, rfl⟩
      rw [hWb] at HW2
      have HWb := hide hWb
      clear hWb
      replace HW := hide HW2
      clear HW2
      try simp only [Act.put, List.setIfInBounds_toArray, List.set_cons_zero, List.set_cons_succ]
      refine w_q ?_
      refine w_1 (fun K hK => ?_)
      have OLD := XB
      have fz := (unhide XB).frozen 3
      have x0 := (unhide XB).cell 3
      simp only [List.getElem?_toArray, List.getElem?_cons_succ, List.getElem?_cons_zero] at x0
      refine op_cell bXB 3 (.slice nfo (j + 1) nfc) (unhide XB) ?_ (fun wc NEW hg hs => ?_)
      · go_simp
      refine hK.out _ _ ?_
      clear hK
      clear fz x0
      replace XB : Hid (Blk wc bXB 34 (wldC (.slice nso (j + 1) nsc) (.slice Option.none 0 0) (.slice Option.none 0 0) (.slice nfo (j + 1) nfc) (.slice Option.none 0 0) (.slice Option.none 0 0) (.slice Option.none 0 0) (.slice ho j hc) (.slice io j ic) (.slice Option.none 0 0))) := NEW
      clear NEW
      replace R := hide (blk_grown (unhide R) hg (by have q := HN.out; omega))
      replace HR := hide ((unhide HR).new hg (by have q := HN.out; omega))
      replace HW := hide ((unhide HW).other hg (by simp))
      replace HB := hide (below_grown HB.out hg HB.out.size (by have q := HN.out; omega))
      replace HN := hide (And.intro HN.out hs)
      clear hg hs OLD
      try simp only [Act.put]
      refine w_e ?_
      have HLb : Hid (Wb.said.length = j) := by rw [← HWb.out]; show Hid (Wa.said.length = j); rw [HFa.out.2.1]; exact hide HLJ.out.2.2.1
      -- #13
      repeat ((fail_if_success (refine pl_id ?_)); go_step)
      refine w_i ?_
      refine w_q ?_
      refine w_q ?_ (h := by have x := XB.out.g 7; go_simp; all_goals rfl)
      refine w_1 (fun K hK => ?_)
      refine op_lit (w.heap.size) (cs := #[.int .i64 0]) (e := 3) (size := 1) (n := 1) ?_ HB.out.size (by unfold maxLen; omega) (by rfl) (fun gLT wc LT hb hbn => ?_)
      · go_simp
        try rfl
      refine hK.out _ _ ?_
      clear hK
      replace LT := hide LT
      replace R := hide ((unhide R).below hb)
      replace XB := hide ((unhide XB).below hb)
      replace HR := hide ((unhide HR).below hb)
      replace HW := hide ((unhide HW).below hb)
      have hsz := hb.size
      have hsz2 := HB.out.size
      replace HN := hide (And.intro HN.out (And.intro hsz hbn))
      clear hsz hsz2
      replace HB := hide (HB.out.trans (hb.mono HB.out.size))
      clear hb
      clear hbn
      try simp only [Act.put, List.setIfInBounds_toArray, List.set_cons_zero, List.set_cons_succ]
      refine w_1 (fun K hK => ?_)
      obtain ⟨cs, h1, h2⟩ := (unhide HW).appSaid
      rw [HLb.out] at h1
      refine op_appOwn rowT_int w.heap.size (.tmp 39) (.tmp 40) rfl (.slice ho j hc) j cs rfl h1 ⟨gLT, 0, none⟩ 1 1 [.int .i64 0] rfl rfl (fun k u hk => World.ownsRow.cells (unhide LT) rfl k u hk) (by simp [Value.oneCell']) (by unfold maxLen; omega) (by omega) HB.out.size (fun vo wc ho hg hat => ?_)
      refine hK.out _ _ ?_
      clear hK
      obtain ⟨X3, HW2, -⟩ := h2 0 vo wc (by rw [HLb.out]; exact ho) hg hat
      clear h2
      obtain ⟨nho, nhc, rfl⟩ := row_form' ho
      replace R := hide ((unhide R).kept hg (fun q => ((unhide HW).loc bR (by simp)).2 _ (List.mem_of_getElem? (i := 7) rfl) q.symm))
      replace XB := hide ((unhide XB).kept hg (fun q => ((unhide HW).loc bXB (by simp)).2 _ (List.mem_of_getElem? (i := 7) rfl) q.symm))
      replace HR := hide ((unhide HR).row hg (fun z hz => .inl (h1.lt z hz).1))
      have hsz := hg.size
      replace HB := hide (kept_below HB.out hg h1 (Nat.le_refl _) HB.out.size)
      clear LT
      replace HN := hide (And.intro HN.out hsz)
      clear hsz hg hat ho h1
      obtain ⟨Wc, hWc⟩ : ∃ x, ({ Wb with said := Wb.said ++ [0] } : Wld) = x := ⟨_, rfl⟩
      rw [hWc] at HW2
      have HWc := hide hWc
      clear hWc
      replace HW := hide HW2
      clear HW2
      try simp only [Act.put, List.setIfInBounds_toArray, List.set_cons_zero, List.set_cons_succ]
      refine w_q ?_
      refine w_1 (fun K hK => ?_)
      have OLD := XB
      have fz := (unhide XB).frozen 7
      have x0 := (unhide XB).cell 7
      simp only [List.getElem?_toArray, List.getElem?_cons_succ, List.getElem?_cons_zero] at x0
      refine op_cell bXB 7 (.slice nho (j + 1) nhc) (unhide XB) ?_ (fun wc NEW hg hs => ?_)
      · go_simp
      refine hK.out _ _ ?_
      clear hK
      clear fz x0
      replace XB : Hid (Blk wc bXB 34 (wldC (.slice nso (j + 1) nsc) (.slice Option.none 0 0) (.slice Option.none 0 0) (.slice nfo (j + 1) nfc) (.slice Option.none 0 0) (.slice Option.none 0 0) (.slice Option.none 0 0) (.slice nho (j + 1) nhc) (.slice io j ic) (.slice Option.none 0 0))) := NEW
      clear NEW
      replace R := hide (blk_grown (unhide R) hg (by have q := HN.out; omega))
      replace HR := hide ((unhide HR).new hg (by have q := HN.out; omega))
      replace HW := hide ((unhide HW).other hg (by simp))
      replace HB := hide (below_grown HB.out hg HB.out.size (by have q := HN.out; omega))
      replace HN := hide (And.intro HN.out hs)
      clear hg hs OLD
      try simp only [Act.put]
      refine w_e ?_
      have HLc : Hid (Wc.wins.length = j) := by rw [← HWc.out]; show Hid (Wb.wins.length = j); rw [← HWb.out]; show Hid (Wa.wins.length = j); rw [HFa.out.2.2]; exact hide HLJ.out.2.2.2
      obtain ⟨E9, hE9⟩ : ∃ n, n = wc.heap.size := ⟨_, rfl⟩
      have hsz := hE9
      have hsz2 := HR.out.1
      replace HN := hide (And.intro HN.out hsz)
      clear hsz hsz2 hE9
      have HXL : Hid (∀ b ∈ X3, b < E9) := hide (fun b hb => by
       have q1 := (unhide HW).lt b hb
       have q := HN.out
       omega)
      -- #14
      repeat ((fail_if_success (refine pl_id ?_)); go_step)
      refine w_i ?_
      refine w_q ?_
      refine w_q ?_ (h := by have x := XB.out.g 8; go_simp; all_goals rfl)
      refine w_1 (fun K hK => ?_)
      refine op_lit (w.heap.size) (cs := #[]) (e := 137) (size := 3) (n := 0) ?_ HB.out.size (by unfold maxLen; omega) (by rfl) (fun gEM wc EM hb hbn => ?_)
      · go_simp
        try rfl
      refine hK.out _ _ ?_
      clear hK
      replace EM := hide EM
      replace R := hide ((unhide R).below hb)
      replace XB := hide ((unhide XB).below hb)
      replace HR := hide ((unhide HR).below hb)
      replace HW := hide ((unhide HW).below hb)
      have hsz := hb.size
      have hsz2 := HB.out.size
      replace HN := hide (And.intro HN.out (And.intro hsz hbn))
      clear hsz hsz2
      replace HB := hide (HB.out.trans (hb.mono HB.out.size))
      clear hb
      clear hbn
      have NX : Hid (WinsX X3 wc (.slice (some ⟨gEM, 0, none⟩) 0 0) []) := by
       have hx : InX X3 wc (.slice (some ⟨gEM, 0, none⟩) 0 0) := fun b hb => by
        cases hb
        exact ⟨((unhide EM).lt gEM rfl).2, fun q => by have q1 := HXL.out gEM q; have q2 := HN.out; omega⟩
       exact hide ⟨hx, [], RowR.own (unhide EM), rfl⟩
      try simp only [Act.put, List.setIfInBounds_toArray, List.set_cons_zero, List.set_cons_succ]
      refine w_1 (fun K hK => ?_)
      refine op_lit (w.heap.size) (cs := #[.slice (some ⟨gEM, 0, none⟩) 0 0]) (e := 58) (size := 1) (n := 1) ?_ HB.out.size (by unfold maxLen; omega) (by rfl) (fun gLT wc LT hb hbn => ?_)
      · go_simp
        try rfl
      refine hK.out _ _ ?_
      clear hK
      replace LT := hide LT
      replace R := hide ((unhide R).below hb)
      replace XB := hide ((unhide XB).below hb)
      replace EM := hide (own_below' (unhide EM) hb)
      replace NX := hide ((unhide NX).below hb)
      replace HR := hide ((unhide HR).below hb)
      replace HW := hide ((unhide HW).below hb)
      have hsz := hb.size
      have hsz2 := HB.out.size
      replace HN := hide (And.intro HN.out (And.intro hsz hbn))
      clear hsz hsz2
      replace HB := hide (HB.out.trans (hb.mono HB.out.size))
      clear hb
      clear hbn
      try simp only [Act.put, List.setIfInBounds_toArray, List.set_cons_zero, List.set_cons_succ]
      refine w_1 (fun K hK => ?_)
      obtain ⟨cs, h1, h2⟩ := (unhide HW).appWins
      rw [HLc.out] at h1
      refine op_appOwn rowT_ww w.heap.size (.tmp 44) (.tmp 46) rfl (.slice io j ic) j cs rfl h1 ⟨gLT, 0, none⟩ 1 1 [.slice (some ⟨gEM, 0, none⟩) 0 0] rfl rfl (fun k u hk => World.ownsRow.cells (unhide LT) rfl k u hk) (by simp [Value.oneCell']) (by unfold maxLen; omega) (by omega) HB.out.size (fun vo wc ho hg hat => ?_)
      refine hK.out _ _ ?_
      clear hK
      obtain ⟨X3, HW2, -⟩ := h2 [] (.slice (some ⟨gEM, 0, none⟩) 0 0) vo wc (unhide NX) (by rw [HLc.out]; exact ho) hg hat
      clear h2 NX
      obtain ⟨nio, nic, rfl⟩ := row_form' ho
      clear EM
      replace R := hide ((unhide R).kept hg (fun q => ((unhide HW).loc bR (by simp)).2 _ (List.mem_of_getElem? (i := 8) rfl) q.symm))
      replace XB := hide ((unhide XB).kept hg (fun q => ((unhide HW).loc bXB (by simp)).2 _ (List.mem_of_getElem? (i := 8) rfl) q.symm))
      replace HR := hide ((unhide HR).row hg (fun z hz => .inl (h1.lt z hz).1))
      have hsz := hg.size
      replace HB := hide (kept_below HB.out hg h1 (Nat.le_refl _) HB.out.size)
      clear LT
      replace HN := hide (And.intro HN.out hsz)
      clear hsz hg hat ho h1
      obtain ⟨Wd, hWd⟩ : ∃ x, ({ Wc with wins := Wc.wins ++ [[]] } : Wld) = x := ⟨_, rfl⟩
      rw [hWd] at HW2
      have HWd := hide hWd
      clear hWd
      replace HW := hide HW2
      clear HW2
      try simp only [Act.put, List.setIfInBounds_toArray, List.set_cons_zero, List.set_cons_succ]
      refine w_q ?_
      refine w_1 (fun K hK => ?_)
      have OLD := XB
      have fz := (unhide XB).frozen 8
      have x0 := (unhide XB).cell 8
      simp only [List.getElem?_toArray, List.getElem?_cons_succ, List.getElem?_cons_zero] at x0
      refine op_cell bXB 8 (.slice nio (j + 1) nic) (unhide XB) ?_ (fun wc NEW hg hs => ?_)
      · go_simp
      refine hK.out _ _ ?_
      clear hK
      clear fz x0
      replace XB : Hid (Blk wc bXB 34 (wldC (.slice nso (j + 1) nsc) (.slice Option.none 0 0) (.slice Option.none 0 0) (.slice nfo (j + 1) nfc) (.slice Option.none 0 0) (.slice Option.none 0 0) (.slice Option.none 0 0) (.slice nho (j + 1) nhc) (.slice nio (j + 1) nic) (.slice Option.none 0 0))) := NEW
      clear NEW
      replace R := hide (blk_grown (unhide R) hg (by have q := HN.out; omega))
      replace HR := hide ((unhide HR).new hg (by have q := HN.out; omega))
      replace HW := hide ((unhide HW).other hg (by simp))
      replace HB := hide (below_grown HB.out hg HB.out.size (by have q := HN.out; omega))
      replace HN := hide (And.intro HN.out hs)
      clear hg hs OLD
      try simp only [Act.put]
      refine w_e ?_
      have HF : Hid (Wd = newN who (j + 1)) := by
       rw [← HNX.out, ← HWd.out, ← HWc.out, ← HWb.out, ← HWa.out]
       rw [if_pos HJW.out, if_pos HJW.out, HFM.out]
       exact hide rfl
      rw [HF.out] at HW
      -- #15
      repeat ((fail_if_success (refine pl_id ?_)); go_step)
      refine w_i ?_
      (iterate 3 refine w_q ?_)
      refine w_e ?_
      replace HN : Hid (w.heap.size ≤ bR ∧ bR < bXB ∧ w.heap.size ≤ bXB ∧ bR < wc.heap.size ∧ bXB < wc.heap.size) := by
       have q := HN.out
       refine hide ?_
       omega
      replace HW := hide ((unhide HW).less (L' := (bXB :: bR :: L0)) (by simp +contextual))
      go_wp2_with fail
      go_roundw
      case rel => exact ⟨j + 1, by omega, _, _, _, _, _, _, _, _, _, by simp, R, XB, HN, HR, HW, HB⟩
      case measure => simp [intOf]; omega
    have q1 : ((j : Int) == (who : Int)) = false := by simp; omega
    have q2 : decide ((j : Int) = (who : Int)) = false := by simp; omega
    have q3 : ¬ (j : Int) = (who : Int) := by omega
    have HJW := hide hjw
    clear hjw
    -- #16
    repeat ((fail_if_success (refine pl_id ?_)); go_step)
    refine w_i ?_
    (iterate 3 refine w_q ?_)
    refine w_e ?_
    clear q1 q2 q3
    -- #17
    repeat ((fail_if_success (refine pl_id ?_)); go_step)
    refine w_i ?_
    refine w_q ?_
    refine w_q ?_ (h := by have x := XB.out.g 0; go_simp; all_goals rfl)
    refine w_q ?_ (h := by have x := M.out.c7; go_simp; all_goals rfl)
    refine w_1 (fun K hK => ?_)
    refine op_lit (w.heap.size) (cs := noMem) (e := 42) (size := 7) (n := 1) ?_ HB.out.size (by unfold maxLen; omega) (by rfl) (fun gLT wc LT hb hbn => ?_)
    · go_simp
      try rfl
    refine hK.out _ _ ?_
    clear hK
    replace LT := hide LT
    replace R := hide ((unhide R).below hb)
    replace XB := hide ((unhide XB).below hb)
    replace M := hide ((unhide M).below hb)
    replace HR := hide ((unhide HR).below hb)
    replace HW := hide ((unhide HW).below hb)
    have hsz := hb.size
    have hsz2 := HB.out.size
    replace HN := hide (And.intro HN.out (And.intro hsz hbn))
    clear hsz hsz2
    replace HB := hide (HB.out.trans (hb.mono HB.out.size))
    clear hb
    clear hbn
    try simp only [Act.put, List.setIfInBounds_toArray, List.set_cons_zero, List.set_cons_succ]
    refine w_1 (fun K hK => ?_)
    obtain ⟨cs, h1, h2⟩ := (unhide HW).appSeats
    rw [HLJ.out.1] at h1
    refine op_appOwn rowT_mm w.heap.size (.tmp 27) (.tmp 29) rfl (.slice so j sc) j cs rfl h1 ⟨gLT, 0, none⟩ 1 1 noMem.toList rfl rfl (fun k u hk => World.ownsRow.cells (unhide LT) rfl k u hk) (by simp [Value.oneCell']) (by unfold maxLen; omega) (by omega) HB.out.size (fun vo wc ho hg hat => ?_)
    refine hK.out _ _ ?_
    clear hK
    obtain ⟨X3, HW2, -⟩ := h2 Mem.none (.slice Option.none 0 0) (.slice Option.none 0 0) vo wc (.inl ⟨rfl, rfl⟩) (.inl ⟨rfl, rfl, rfl⟩) (fun b hb => by cases hb) (fun b hb => by cases hb) (by rw [HLJ.out.1]; exact ho) hg hat
    clear h2
    obtain ⟨nso, nsc, rfl⟩ := row_form' ho
    replace R := hide ((unhide R).kept hg (fun q => ((unhide HW).loc bR (by simp)).2 _ (List.mem_of_getElem? (i := 0) rfl) q.symm))
    replace XB := hide ((unhide XB).kept hg (fun q => ((unhide HW).loc bXB (by simp)).2 _ (List.mem_of_getElem? (i := 0) rfl) q.symm))
    replace M := hide ((unhide M).kept hg (fun q => ((unhide HW).loc bM (by simp)).2 _ (List.mem_of_getElem? (i := 0) rfl) q.symm))
    replace HR := hide ((unhide HR).row hg (fun z hz => .inl (h1.lt z hz).1))
    have hsz := hg.size
    replace HB := hide (kept_below HB.out hg h1 (Nat.le_refl _) HB.out.size)
    clear LT
    replace HN := hide (And.intro HN.out hsz)
    clear hsz hg hat ho h1
    obtain ⟨Wa, hWa⟩ : ∃ x, ({ newN who j with seats := (newN who j).seats ++ [Mem.none] } : Wld) = x := ⟨_, rfl⟩
    rw [hWa] at HW2
    have HWa := hide hWa
    clear hWa
    replace HW := hide HW2
    clear HW2
    try simp only [Act.put, List.setIfInBounds_toArray, List.set_cons_zero, List.set_cons_succ]
    refine w_q ?_
    refine w_1 (fun K hK => ?_)
    have OLD := XB
    have fz := (unhide XB).frozen 0
    have x0 := (unhide XB).cell 0
    simp only [List.getElem?_toArray, List.getElem?_cons_zero] at x0
    refine op_cell bXB 0 (.slice nso (j + 1) nsc) (unhide XB) ?_ (fun wc NEW hg hs => ?_)
    · go_simp
    refine hK.out _ _ ?_
    clear hK
    clear fz x0
    replace XB : Hid (Blk wc bXB 34 (wldC (.slice nso (j + 1) nsc) (.slice Option.none 0 0) (.slice Option.none 0 0) (.slice fo j fc) (.slice Option.none 0 0) (.slice Option.none 0 0) (.slice Option.none 0 0) (.slice ho j hc) (.slice io j ic) (.slice Option.none 0 0))) := NEW
    clear NEW
    replace R := hide (blk_grown (unhide R) hg (by have q := HN.out; omega))
    replace M := hide (blk_grown (unhide M) hg (by have q := HN.out; omega))
    replace HR := hide ((unhide HR).new hg (by have q := HN.out; omega))
    replace HW := hide ((unhide HW).other hg (by simp))
    replace HB := hide (below_grown HB.out hg HB.out.size (by have q := HN.out; omega))
    replace HN := hide (And.intro HN.out hs)
    clear hg hs OLD
    try simp only [Act.put]
    refine w_e ?_
    clear M
    have HFa : Hid (Wa.fresh = (newN who j).fresh ∧ Wa.said = (newN who j).said ∧ Wa.wins = (newN who j).wins) := by rw [← HWa.out]; exact hide ⟨rfl, rfl, rfl⟩
    have HLa : Hid (Wa.fresh.length = j) := by rw [HFa.out.1]; exact hide HLJ.out.2.1
    -- #18
    repeat ((fail_if_success (refine pl_id ?_)); go_step)
    refine w_i ?_
    refine w_q ?_
    refine w_q ?_ (h := by have x := XB.out.g 3; go_simp; all_goals rfl)
    refine w_q ?_
    refine w_1 (fun K hK => ?_)
    refine op_lit (w.heap.size) (cs := #[.int .i64 0]) (e := 3) (size := 1) (n := 1) ?_ HB.out.size (by unfold maxLen; omega) (by rfl) (fun gLT wc LT hb hbn => ?_)
    · go_simp
      try rfl
    refine hK.out _ _ ?_
    clear hK
    replace LT := hide LT
    replace R := hide ((unhide R).below hb)
    replace XB := hide ((unhide XB).below hb)
    replace HR := hide ((unhide HR).below hb)
    replace HW := hide ((unhide HW).below hb)
    have hsz := hb.size
    have hsz2 := HB.out.size
    replace HN := hide (And.intro HN.out (And.intro hsz hbn))
    clear hsz hsz2
    replace HB := hide (HB.out.trans (hb.mono HB.out.size))
    clear hb
    clear hbn
    try simp only [Act.put, List.setIfInBounds_toArray, List.set_cons_zero, List.set_cons_succ]
    refine w_1 (fun K hK => ?_)
    obtain ⟨cs, h1, h2⟩ := (unhide HW).appFresh
    rw [HLa.out] at h1
    refine op_appOwn rowT_int w.heap.size (.tmp 33) (.tmp 35) rfl (.slice fo j fc) j cs rfl h1 ⟨gLT, 0, none⟩ 1 1 [.int .i64 0] rfl rfl (fun k u hk => World.ownsRow.cells (unhide LT) rfl k u hk) (by simp [Value.oneCell']) (by unfold maxLen; omega) (by omega) HB.out.size (fun vo wc ho hg hat => ?_)
    refine hK.out _ _ ?_
    clear hK
    obtain ⟨X3, HW2, -⟩ := h2 0 vo wc (by rw [HLa.out]; exact ho) hg hat
    clear h2
    obtain ⟨nfo, nfc, rfl⟩ := row_form' ho
    replace R := hide ((unhide R).kept hg (fun q => ((unhide HW).loc bR (by simp)).2 _ (List.mem_of_getElem? (i := 3) rfl) q.symm))
    replace XB := hide ((unhide XB).kept hg (fun q => ((unhide HW).loc bXB (by simp)).2 _ (List.mem_of_getElem? (i := 3) rfl) q.symm))
    replace HR := hide ((unhide HR).row hg (fun z hz => .inl (h1.lt z hz).1))
    have hsz := hg.size
    replace HB := hide (kept_below HB.out hg h1 (Nat.le_refl _) HB.out.size)
    clear LT
    replace HN := hide (And.intro HN.out hsz)
    clear hsz hg hat ho h1
    obtain ⟨Wb, hWb⟩ : ∃ x, ({ Wa with fresh := Wa.fresh ++ [0] } : Wld) = x := ⟨_, rfl⟩
    rw [hWb] at HW2
    have HWb := hide hWb
    clear hWb
    replace HW := hide HW2
    clear HW2
    try simp only [Act.put, List.setIfInBounds_toArray, List.set_cons_zero, List.set_cons_succ]
    refine w_q ?_
    refine w_1 (fun K hK => ?_)
    have OLD := XB
    have fz := (unhide XB).frozen 3
    have x0 := (unhide XB).cell 3
    simp only [List.getElem?_toArray, List.getElem?_cons_succ, List.getElem?_cons_zero] at x0
    refine op_cell bXB 3 (.slice nfo (j + 1) nfc) (unhide XB) ?_ (fun wc NEW hg hs => ?_)
    · go_simp
    refine hK.out _ _ ?_
    clear hK
    clear fz x0
    replace XB : Hid (Blk wc bXB 34 (wldC (.slice nso (j + 1) nsc) (.slice Option.none 0 0) (.slice Option.none 0 0) (.slice nfo (j + 1) nfc) (.slice Option.none 0 0) (.slice Option.none 0 0) (.slice Option.none 0 0) (.slice ho j hc) (.slice io j ic) (.slice Option.none 0 0))) := NEW
    clear NEW
    replace R := hide (blk_grown (unhide R) hg (by have q := HN.out; omega))
    replace HR := hide ((unhide HR).new hg (by have q := HN.out; omega))
    replace HW := hide ((unhide HW).other hg (by simp))
    replace HB := hide (below_grown HB.out hg HB.out.size (by have q := HN.out; omega))
    replace HN := hide (And.intro HN.out hs)
    clear hg hs OLD
    try simp only [Act.put]
    refine w_e ?_
    have HLb : Hid (Wb.said.length = j) := by rw [← HWb.out]; show Hid (Wa.said.length = j); rw [HFa.out.2.1]; exact hide HLJ.out.2.2.1
    -- #19
    repeat ((fail_if_success (refine pl_id ?_)); go_step)
    refine w_i ?_
    refine w_q ?_
    refine w_q ?_ (h := by have x := XB.out.g 7; go_simp; all_goals rfl)
    refine w_1 (fun K hK => ?_)
    refine op_lit (w.heap.size) (cs := #[.int .i64 0]) (e := 3) (size := 1) (n := 1) ?_ HB.out.size (by unfold maxLen; omega) (by rfl) (fun gLT wc LT hb hbn => ?_)
    · go_simp
      try rfl
    refine hK.out _ _ ?_
    clear hK
    replace LT := hide LT
    replace R := hide ((unhide R).below hb)
    replace XB := hide ((unhide XB).below hb)
    replace HR := hide ((unhide HR).below hb)
    replace HW := hide ((unhide HW).below hb)
    have hsz := hb.size
    have hsz2 := HB.out.size
    replace HN := hide (And.intro HN.out (And.intro hsz hbn))
    clear hsz hsz2
    replace HB := hide (HB.out.trans (hb.mono HB.out.size))
    clear hb
    clear hbn
    try simp only [Act.put, List.setIfInBounds_toArray, List.set_cons_zero, List.set_cons_succ]
    refine w_1 (fun K hK => ?_)
    obtain ⟨cs, h1, h2⟩ := (unhide HW).appSaid
    rw [HLb.out] at h1
    refine op_appOwn rowT_int w.heap.size (.tmp 39) (.tmp 40) rfl (.slice ho j hc) j cs rfl h1 ⟨gLT, 0, none⟩ 1 1 [.int .i64 0] rfl rfl (fun k u hk => World.ownsRow.cells (unhide LT) rfl k u hk) (by simp [Value.oneCell']) (by unfold maxLen; omega) (by omega) HB.out.size (fun vo wc ho hg hat => ?_)
    refine hK.out _ _ ?_
    clear hK
    obtain ⟨X3, HW2, -⟩ := h2 0 vo wc (by rw [HLb.out]; exact ho) hg hat
    clear h2
    obtain ⟨nho, nhc, rfl⟩ := row_form' ho
    replace R := hide ((unhide R).kept hg (fun q => ((unhide HW).loc bR (by simp)).2 _ (List.mem_of_getElem? (i := 7) rfl) q.symm))
    replace XB := hide ((unhide XB).kept hg (fun q => ((unhide HW).loc bXB (by simp)).2 _ (List.mem_of_getElem? (i := 7) rfl) q.symm))
    replace HR := hide ((unhide HR).row hg (fun z hz => .inl (h1.lt z hz).1))
    have hsz := hg.size
    replace HB := hide (kept_below HB.out hg h1 (Nat.le_refl _) HB.out.size)
    clear LT
    replace HN := hide (And.intro HN.out hsz)
    clear hsz hg hat ho h1
    obtain ⟨Wc, hWc⟩ : ∃ x, ({ Wb with said := Wb.said ++ [0] } : Wld) = x := ⟨_, rfl⟩
    rw [hWc] at HW2
    have HWc := hide hWc
    clear hWc
    replace HW := hide HW2
    clear HW2
    try simp only [Act.put, List.setIfInBounds_toArray, List.set_cons_zero, List.set_cons_succ]
    refine w_q ?_
    refine w_1 (fun K hK => ?_)
    have OLD := XB
    have fz := (unhide XB).frozen 7
    have x0 := (unhide XB).cell 7
    simp only [List.getElem?_toArray, List.getElem?_cons_succ, List.getElem?_cons_zero] at x0
    refine op_cell bXB 7 (.slice nho (j + 1) nhc) (unhide XB) ?_ (fun wc NEW hg hs => ?_)
    · go_simp
    refine hK.out _ _ ?_
    clear hK
    clear fz x0
    replace XB : Hid (Blk wc bXB 34 (wldC (.slice nso (j + 1) nsc) (.slice Option.none 0 0) (.slice Option.none 0 0) (.slice nfo (j + 1) nfc) (.slice Option.none 0 0) (.slice Option.none 0 0) (.slice Option.none 0 0) (.slice nho (j + 1) nhc) (.slice io j ic) (.slice Option.none 0 0))) := NEW
    clear NEW
    replace R := hide (blk_grown (unhide R) hg (by have q := HN.out; omega))
    replace HR := hide ((unhide HR).new hg (by have q := HN.out; omega))
    replace HW := hide ((unhide HW).other hg (by simp))
    replace HB := hide (below_grown HB.out hg HB.out.size (by have q := HN.out; omega))
    replace HN := hide (And.intro HN.out hs)
    clear hg hs OLD
    try simp only [Act.put]
    refine w_e ?_
    have HLc : Hid (Wc.wins.length = j) := by rw [← HWc.out]; show Hid (Wb.wins.length = j); rw [← HWb.out]; show Hid (Wa.wins.length = j); rw [HFa.out.2.2]; exact hide HLJ.out.2.2.2
    obtain ⟨E9, hE9⟩ : ∃ n, n = wc.heap.size := ⟨_, rfl⟩
    have hsz := hE9
    have hsz2 := HR.out.1
    replace HN := hide (And.intro HN.out hsz)
    clear hsz hsz2 hE9
    have HXL : Hid (∀ b ∈ X3, b < E9) := hide (fun b hb => by
     have q1 := (unhide HW).lt b hb
     have q := HN.out
     omega)
    -- #20
    repeat ((fail_if_success (refine pl_id ?_)); go_step)
    refine w_i ?_
    refine w_q ?_
    refine w_q ?_ (h := by have x := XB.out.g 8; go_simp; all_goals rfl)
    refine w_1 (fun K hK => ?_)
    refine op_lit (w.heap.size) (cs := #[]) (e := 137) (size := 3) (n := 0) ?_ HB.out.size (by unfold maxLen; omega) (by rfl) (fun gEM wc EM hb hbn => ?_)
    · go_simp
      try rfl
    refine hK.out _ _ ?_
    clear hK
    replace EM := hide EM
    replace R := hide ((unhide R).below hb)
    replace XB := hide ((unhide XB).below hb)
    replace HR := hide ((unhide HR).below hb)
    replace HW := hide ((unhide HW).below hb)
    have hsz := hb.size
    have hsz2 := HB.out.size
    replace HN := hide (And.intro HN.out (And.intro hsz hbn))
    clear hsz hsz2
    replace HB := hide (HB.out.trans (hb.mono HB.out.size))
    clear hb
    clear hbn
    have NX : Hid (WinsX X3 wc (.slice (some ⟨gEM, 0, none⟩) 0 0) []) := by
     have hx : InX X3 wc (.slice (some ⟨gEM, 0, none⟩) 0 0) := fun b hb => by
      cases hb
      exact ⟨((unhide EM).lt gEM rfl).2, fun q => by have q1 := HXL.out gEM q; have q2 := HN.out; omega⟩
     exact hide ⟨hx, [], RowR.own (unhide EM), rfl⟩
    try simp only [Act.put, List.setIfInBounds_toArray, List.set_cons_zero, List.set_cons_succ]
    refine w_1 (fun K hK => ?_)
    refine op_lit (w.heap.size) (cs := #[.slice (some ⟨gEM, 0, none⟩) 0 0]) (e := 58) (size := 1) (n := 1) ?_ HB.out.size (by unfold maxLen; omega) (by rfl) (fun gLT wc LT hb hbn => ?_)
    · go_simp
      try rfl
    refine hK.out _ _ ?_
    clear hK
    replace LT := hide LT
    replace R := hide ((unhide R).below hb)
    replace XB := hide ((unhide XB).below hb)
    replace EM := hide (own_below' (unhide EM) hb)
    replace NX := hide ((unhide NX).below hb)
    replace HR := hide ((unhide HR).below hb)
    replace HW := hide ((unhide HW).below hb)
    have hsz := hb.size
    have hsz2 := HB.out.size
    replace HN := hide (And.intro HN.out (And.intro hsz hbn))
    clear hsz hsz2
    replace HB := hide (HB.out.trans (hb.mono HB.out.size))
    clear hb
    clear hbn
    try simp only [Act.put, List.setIfInBounds_toArray, List.set_cons_zero, List.set_cons_succ]
    refine w_1 (fun K hK => ?_)
    obtain ⟨cs, h1, h2⟩ := (unhide HW).appWins
    rw [HLc.out] at h1
    refine op_appOwn rowT_ww w.heap.size (.tmp 44) (.tmp 46) rfl (.slice io j ic) j cs rfl h1 ⟨gLT, 0, none⟩ 1 1 [.slice (some ⟨gEM, 0, none⟩) 0 0] rfl rfl (fun k u hk => World.ownsRow.cells (unhide LT) rfl k u hk) (by simp [Value.oneCell']) (by unfold maxLen; omega) (by omega) HB.out.size (fun vo wc ho hg hat => ?_)
    refine hK.out _ _ ?_
    clear hK
    obtain ⟨X3, HW2, -⟩ := h2 [] (.slice (some ⟨gEM, 0, none⟩) 0 0) vo wc (unhide NX) (by rw [HLc.out]; exact ho) hg hat
    clear h2 NX
    obtain ⟨nio, nic, rfl⟩ := row_form' ho
    clear EM
    replace R := hide ((unhide R).kept hg (fun q => ((unhide HW).loc bR (by simp)).2 _ (List.mem_of_getElem? (i := 8) rfl) q.symm))
    replace XB := hide ((unhide XB).kept hg (fun q => ((unhide HW).loc bXB (by simp)).2 _ (List.mem_of_getElem? (i := 8) rfl) q.symm))
    replace HR := hide ((unhide HR).row hg (fun z hz => .inl (h1.lt z hz).1))
    have hsz := hg.size
    replace HB := hide (kept_below HB.out hg h1 (Nat.le_refl _) HB.out.size)
    clear LT
    replace HN := hide (And.intro HN.out hsz)
    clear hsz hg hat ho h1
    obtain ⟨Wd, hWd⟩ : ∃ x, ({ Wc with wins := Wc.wins ++ [[]] } : Wld) = x := ⟨_, rfl⟩
    rw [hWd] at HW2
    have HWd := hide hWd
    clear hWd
    replace HW := hide HW2
    clear HW2
    try simp only [Act.put, List.setIfInBounds_toArray, List.set_cons_zero, List.set_cons_succ]
    refine w_q ?_
    refine w_1 (fun K hK => ?_)
    have OLD := XB
    have fz := (unhide XB).frozen 8
    have x0 := (unhide XB).cell 8
    simp only [List.getElem?_toArray, List.getElem?_cons_succ, List.getElem?_cons_zero] at x0
    refine op_cell bXB 8 (.slice nio (j + 1) nic) (unhide XB) ?_ (fun wc NEW hg hs => ?_)
    · go_simp
    refine hK.out _ _ ?_
    clear hK
    clear fz x0
    replace XB : Hid (Blk wc bXB 34 (wldC (.slice nso (j + 1) nsc) (.slice Option.none 0 0) (.slice Option.none 0 0) (.slice nfo (j + 1) nfc) (.slice Option.none 0 0) (.slice Option.none 0 0) (.slice Option.none 0 0) (.slice nho (j + 1) nhc) (.slice nio (j + 1) nic) (.slice Option.none 0 0))) := NEW
    clear NEW
    replace R := hide (blk_grown (unhide R) hg (by have q := HN.out; omega))
    replace HR := hide ((unhide HR).new hg (by have q := HN.out; omega))
    replace HW := hide ((unhide HW).other hg (by simp))
    replace HB := hide (below_grown HB.out hg HB.out.size (by have q := HN.out; omega))
    replace HN := hide (And.intro HN.out hs)
    clear hg hs OLD
    try simp only [Act.put]
    refine w_e ?_
    have HF : Hid (Wd = newN who (j + 1)) := by
     rw [← HNX.out, ← HWd.out, ← HWc.out, ← HWb.out, ← HWa.out]
     rw [if_neg HJW.out, if_neg HJW.out]
     exact hide rfl
    rw [HF.out] at HW
    -- #21
    repeat ((fail_if_success (refine pl_id ?_)); go_step)
    refine w_i ?_
    (iterate 3 refine w_q ?_)
    refine w_e ?_
    replace HN : Hid (w.heap.size ≤ bR ∧ bR < bXB ∧ w.heap.size ≤ bXB ∧ bR < wc.heap.size ∧ bXB < wc.heap.size) := by
     have q := HN.out
     refine hide ?_
     omega
    replace HW := hide ((unhide HW).less (L' := (bXB :: bR :: L0)) (by simp +contextual))
    go_wp2_with fail
    go_roundw
    case rel => exact ⟨j + 1, by omega, _, _, _, _, _, _, _, _, _, by simp, R, XB, HN, HR, HW, HB⟩
    case measure => simp [intOf]; omega
  have hlt2 : decide ((j : Int) < 8) = false := by simp; omega
  have hlt3 : ¬ (j : Int) < 8 := by omega
  obtain rfl : j = 8 := by omega
  -- #22
  repeat ((fail_if_success (refine pl_id ?_)); go_step)
  refine w_i ?_
  refine w_q ?_; refine w_q ?_
  refine w_e ?_
  -- #23
  repeat ((fail_if_success (refine pl_id ?_)); go_step)
  refine w_i ?_
  refine w_q ?_ (h := by have x := XB.out.c10; go_simp; all_goals rfl)
  refine w_1 (fun K hK => ?_)
  have OLD := R
  refine op_row 34 (.tmp 2) (.tmp 49) rfl bR (wldC (.slice so 8 sc) (.slice Option.none 0 0) (.slice Option.none 0 0) (.slice fo 8 fc) (.slice Option.none 0 0) (.slice Option.none 0 0) (.slice Option.none 0 0) (.slice ho 8 hc) (.slice io 8 ic) (.slice Option.none 0 0)) _ 34 rfl rfl (unhide R) info_wld rfl (one_wld (unhide HW)) (fun wc NEW hg hs => ?_)
  refine hK.out _ _ ?_
  clear hK
  replace R := hide NEW
  clear NEW
  replace XB := hide (blk_grown (unhide XB) hg (by have q := HN.out; omega))
  replace HR := hide ((unhide HR).new hg (by have q := HN.out; omega))
  replace HW := hide ((unhide HW).other hg (by simp))
  replace HB := hide (below_grown HB.out hg HB.out.size (by have q := HN.out; omega))
  replace HN := hide (And.intro HN.out hs)
  clear hg hs OLD
  try simp only [Act.put]
  refine w_e ?_
  have l1 := load_wld (unhide R) rfl
  go_wp2_with fail
  refine bodyPost_ret (v := .agg (wldC (.slice so 8 sc) (.slice Option.none 0 0) (.slice Option.none 0 0) (.slice fo 8 fc) (.slice Option.none 0 0) (.slice Option.none 0 0) (.slice Option.none 0 0) (.slice ho 8 hc) (.slice io 8 ic) (.slice Option.none 0 0))) (results_cell rfl rfl l1) rfl ?_
  exact ⟨_, _, _, _, _, _, _, _, _, _, _, rfl, (unhide HW).less (by simp +contextual), HB.out⟩
end Go.Proofs.YtabpaaahobakpaaGreat
/-
  The law over GrpNew, of one of the group.
-/
namespace Go.Proofs.YtabpaaahobakpaaGreat
open Go.RowKit
set_option linter.unusedVariables false

/-- The specification's, with its rows' forms. -/
theorem sGrpNew_new (who : Nat) (w : World) (hw : who < 8) :
    Calls Tryz.prog 8 #[.int .i64 (who : Int)] w fun e w' => ∃ (a0 a1 a2 a3 a4 a5 a6 a7 a8 a9 : Option Addr) (l0 l1 l2 l3 l4 l5 l6 l7 l8 l9 c0 c1 c2 c3 c4 c5 c6 c7 c8 c9 : Nat),
      e = .returned (.agg (wldC (.slice a0 l0 c0) (.slice a1 l1 c1) (.slice a2 l2 c2) (.slice a3 l3 c3) (.slice a4 l4 c4) (.slice a5 l5 c5) (.slice a6 l6 c6) (.slice a7 l7 c7) (.slice a8 l8 c8) (.slice a9 l9 c9))) ∧
      NewP w' (.agg (wldC (.slice a0 l0 c0) (.slice a1 l1 c1) (.slice a2 l2 c2) (.slice a3 l3 c3) (.slice a4 l4 c4) (.slice a5 l5 c5) (.slice a6 l6 c6) (.slice a7 l7 c7) (.slice a8 l8 c8) (.slice a9 l9 c9))) (newW who).seats (newW who).fresh (newW who).said 8 ∧ Below w.heap.size w w' := by
  refine (sGrpNew_any who w hw [] (fun b hb => by cases hb)).mono ?_
  rintro e w' ⟨X', t0, t1, t2, t3, t4, t5, t6, t7, t8, t9, rfl, hr, hb⟩
  have hp := newP_rows hr
  obtain ⟨⟨a0, p0, rfl⟩, ⟨a1, p1, rfl⟩, ⟨a2, p2, rfl⟩, ⟨a3, p3, rfl⟩, ⟨a4, p4, rfl⟩, ⟨a5, p5, rfl⟩, ⟨a6, p6, rfl⟩, ⟨a7, p7, rfl⟩, ⟨a8, p8, rfl⟩, ⟨a9, p9, rfl⟩⟩ := hr.forms
  exact ⟨_, _, _, _, _, _, _, _, _, _, _, _, _, _, _, _, _, _, _, _, _, _, _, _, _, _, _, _, _, _, rfl, hp, hb⟩

end Go.Proofs.YtabpaaahobakpaaGreat
/-
  The laws' own last word: it returns true.
-/
namespace Go.Proofs.YtabpaaahobakpaaGreat
open Go.RowKit

set_option maxHeartbeats 400000 in
theorem keOk_any (w : World) : Calls Tryz.prog 9 #[] w fun e w' => e = .returned (.bool true) ∧ Below w.heap.size w w' := by
  have hk : Hid (Kw.ok ⟨#[65, 49, 59]⟩ = true) := by show Kw.ok _ = true; decide +kernel
  go_enter Tryz.func9, Tryz.ntmps9
  go_wp2_with fail
  refine (iSecOk_any ⟨#[65, 49, 59]⟩ _ (le_maxLen (by decide))).mono ?_
  rw [hk.out]
  rintro e w1 ⟨rfl, hb1⟩
  go_wp2_with fail
  go_ret
  exact ⟨rfl, hb1⟩

end Go.Proofs.YtabpaaahobakpaaGreat
