/-
 The program's GrpNew, of one of the group.
-/
import Derived.Test.YtabpaaahobakpaaGreatFnGrpNewB2
import Derived.Test.YtabpaaahobakpaaGreatFnGrpNewB10
import Derived.Test.YtabpaaahobakpaaGreatFnGrpNewB8
import Derived.Test.YtabpaaahobakpaaGreatFnGrpNewB4
namespace Go.Proofs.YtabpaaahobakpaaGreat
open Go.RowKit
set_option maxRecDepth 100000 in
set_option maxHeartbeats 8000000 in
theorem handedOut_any (b : Nat) (a0 a1 a2 a3 a4 a5 a6 a7 a8 a9 : Option Addr) (l0 l1 l2 l3 l4 l5 l6 l7 l8 l9 c0 c1 c2 c3 c4 c5 c6 c7 c8 c9 : Nat) (w : World)
 (h : Blk w b 60 (wldC (.slice a0 l0 c0) (.slice a1 l1 c1) (.slice a2 l2 c2) (.slice a3 l3 c3) (.slice a4 l4 c4) (.slice a5 l5 c5) (.slice a6 l6 c6) (.slice a7 l7 c7) (.slice a8 l8 c8) (.slice a9 l9 c9))) :
 Calls Tryz.prog 24 #[.pointer (some ⟨b, 0, none⟩)] w fun e w' => e = .returned (.agg (wldC (.slice a0 l0 c0) (.slice a1 l1 c1) (.slice a2 l2 c2) (.slice a3 l3 c3) (.slice a4 l4 c4) (.slice a5 l5 c5) (.slice a6 l6 c6) (.slice a7 l7 c7) (.slice a8 l8 c8) (.slice a9 l9 c9))) ∧ Below w.heap.size w w' := by
 have V := hide h
 have HV := hide h.lt
 clear h
 have HB : Hid (Below w.heap.size w w) := Below.refl _ _
 have HN : Hid (True) := trivial
 go_enter Tryz.func24, Tryz.ntmps24
 replace HN : Hid (b < w.heap.size) := HV
 clear HV
 -- #1
 repeat ((fail_if_success (refine pl_id ?_)); go_step)
 refine w_i ?_
 refine w_1 (fun K hK => ?_)
 refine op_alloc (cs := noWld) (t := 34) ?_ (fun bR wc R hb hbn => ?_)
 · go_simp
   try rfl
 refine hK.out _ _ ?_
 clear hK
 replace R := hide R
 replace V := hide ((unhide V).below hb)
 have hsz := hb.size
 have hsz2 := HB.out.size
 replace HN := hide (And.intro HN.out (And.intro hsz hbn))
 clear hsz hsz2
 replace HB := hide (HB.out.trans (hb.mono HB.out.size))
 clear hb
 clear hbn
 try simp only [Act.put, List.setIfInBounds_toArray, List.set_cons_zero, List.set_cons_succ]
 refine w_e ?_
 -- #2
 repeat go_step
 refine r_i (KeepL ([b, bR] : List Nat)) ?_
 have hb : Below wc.heap.size wc wc.drew := (Below.refl _ _).drew
 have hsq : wc.drew.heap.size = wc.heap.size := rfl
 generalize wc.drew = wc at *
 replace V := hide ((unhide V).below hb)
 replace R := hide ((unhide R).below hb)
 have hsz := hb.size
 have hsz2 := HB.out.size
 replace HN := hide (And.intro HN.out (And.intro hsz hsq))
 clear hsz hsz2
 replace HB := hide (HB.out.trans (hb.mono HB.out.size))
 clear hb
 clear hsq
 refine r_q 0 ?_; refine r_q 1 ?_; refine r_q 2 ?_
 refine r_q 3 ?_ (h := by intro w' hw'; have x := (Blk.keepL (unhide V) hw' (by simp)).g 0; go_simp; all_goals rfl)
 refine r_q 4 ?_; refine r_q 5 ?_; refine r_q 6 ?_
 refine r_q 7 ?_ (h := by intro w' hw'; have x := (Blk.keepL (unhide V) hw' (by simp)).g 1; go_simp; all_goals rfl)
 refine r_q 8 ?_; refine r_q 9 ?_; refine r_q 10 ?_
 refine r_q 11 ?_ (h := by intro w' hw'; have x := (Blk.keepL (unhide V) hw' (by simp)).g 2; go_simp; all_goals rfl)
 refine r_q 12 ?_; refine r_q 13 ?_; refine r_q 14 ?_
 refine r_q 15 ?_ (h := by intro w' hw'; have x := (Blk.keepL (unhide V) hw' (by simp)).g 3; go_simp; all_goals rfl)
 refine r_q 16 ?_; refine r_q 17 ?_; refine r_q 18 ?_
 refine r_q 19 ?_ (h := by intro w' hw'; have x := (Blk.keepL (unhide V) hw' (by simp)).g 4; go_simp; all_goals rfl)
 refine r_q 20 ?_; refine r_q 21 ?_; refine r_q 22 ?_
 refine r_q 23 ?_ (h := by intro w' hw'; have x := (Blk.keepL (unhide V) hw' (by simp)).g 5; go_simp; all_goals rfl)
 refine r_q 24 ?_; refine r_q 25 ?_; refine r_q 26 ?_
 refine r_q 27 ?_ (h := by intro w' hw'; have x := (Blk.keepL (unhide V) hw' (by simp)).g 6; go_simp; all_goals rfl)
 refine r_q 28 ?_; refine r_q 29 ?_; refine r_q 30 ?_
 refine r_q 31 ?_ (h := by intro w' hw'; have x := (Blk.keepL (unhide V) hw' (by simp)).g 7; go_simp; all_goals rfl)
 refine r_q 32 ?_; refine r_q 33 ?_; refine r_q 34 ?_
 refine r_q 35 ?_ (h := by intro w' hw'; have x := (Blk.keepL (unhide V) hw' (by simp)).g 8; go_simp; all_goals rfl)
 refine r_q 36 ?_; refine r_q 37 ?_; refine r_q 38 ?_
 refine r_q 39 ?_ (h := by intro w' hw'; have x := (Blk.keepL (unhide V) hw' (by simp)).g 9; go_simp; all_goals rfl)
 refine r_q 40 ?_
 refine r_l 41 (fun K hK => ?_)
 have OLD := R
 refine op_row 34 (.tmp 2) (.tmp 43) rfl bR (wldC (.slice a0 l0 c0) (.slice a1 l1 c1) (.slice a2 l2 c2) (.slice a3 l3 c3) (.slice a4 l4 c4) (.slice a5 l5 c5) (.slice a6 l6 c6) (.slice a7 l7 c7) (.slice a8 l8 c8) (.slice a9 l9 c9)) _ 34 rfl rfl (unhide R) info_wld2 rfl (one_w10 _ _ _ _ _ _ _ _ _ _ _ _ _ _ _ _ _ _ _ _ _ _ _ _ _ _ _ _ _ _) (fun wc NEW hg hs => ?_)
 refine hK.out _ _ ?_
 clear hK
 replace R := hide NEW
 clear NEW
 replace V := hide (blk_grown (unhide V) hg (by have q := HN.out; omega))
 replace HB := hide (below_grown HB.out hg HB.out.size (by have q := HN.out; omega))
 replace HN := hide (And.intro HN.out hs)
 clear hg hs OLD
 try simp only [Act.put]
 have lw := load_wld (unhide R) rfl
 go_wp2_with fail
 refine bodyPost_ret (v := .agg (wldC (.slice a0 l0 c0) (.slice a1 l1 c1) (.slice a2 l2 c2) (.slice a3 l3 c3) (.slice a4 l4 c4) (.slice a5 l5 c5) (.slice a6 l6 c6) (.slice a7 l7 c7) (.slice a8 l8 c8) (.slice a9 l9 c9))) (results_cell rfl rfl lw) rfl ?_
 exact ⟨rfl, HB.out⟩
set_option maxRecDepth 100000 in
set_option maxHeartbeats 8000000 in
theorem iGrpNew_any (who : Nat) (w : World) (hw : who < 8) (m : Mem) (hm : fstOf (who : Int) (mkNew (who : Int) 1) (mkNew (who : Int) 2) = m) :
 Calls Tryz.prog 6 #[.int .i64 (who : Int)] w fun e w' => ∃ (g0 g3 g7 g8 : Nat) (ks os : Value), e = .returned (.agg (wldC (.slice (some ⟨g0, 0, none⟩) 8 8) (.slice none 0 0) (.slice none 0 0) (.slice (some ⟨g3, 0, none⟩) 8 8) (.slice none 0 0) (.slice none 0 0) (.slice none 0 0) (.slice (some ⟨g7, 0, none⟩) 8 8) (.slice (some ⟨g8, 0, none⟩) 8 8) (.slice none 0 0))) ∧
  w'.ownsRow w.heap.size 42 7 (.slice (some ⟨g0, 0, none⟩) 8 8) 8 (scells ((List.replicate 8 sx0).set who (m.inn, m.who, ks, os, m.ep, m.init, m.tag))) ∧ Own w.heap.size w' ks m.keys ∧ OwnM w.heap.size w' os m.own ∧
  w'.ownsRow w.heap.size 3 1 (.slice (some ⟨g3, 0, none⟩) 8 8) 8 ((List.replicate 8 (.int .i64 0)).set who (.int .i64 2)) ∧ w'.ownsRow w.heap.size 3 1 (.slice (some ⟨g7, 0, none⟩) 8 8) 8 (List.replicate 8 (.int .i64 0)) ∧ w'.ownsRow w.heap.size 58 1 (.slice (some ⟨g8, 0, none⟩) 8 8) 8 (List.replicate 8 (.slice none 0 0)) ∧
  g3 ≠ g7 ∧ Below w.heap.size w w' := by
 have HM := hide hm
 have HWH := hide hw
 clear hm hw
 have HB : Hid (Below w.heap.size w w) := Below.refl _ _
 have HN : Hid (True) := trivial
 go_enter Tryz.func6, Tryz.ntmps6
 -- #1
 repeat ((fail_if_success (refine pl_id ?_)); go_step)
 refine w_i ?_
 refine w_1 (fun K hK => ?_)
 refine op_alloc (cs := noWld) (t := 34) ?_ (fun bR wc R hb hbn => ?_)
 · go_simp
   try rfl
 refine hK.out _ _ ?_
 clear hK
 replace R := hide R
 have hsz := hb.size
 have hsz2 := HB.out.size
 replace HN := hide (And.intro HN.out (And.intro hsz hbn))
 clear hsz hsz2
 replace HB := hide (HB.out.trans (hb.mono HB.out.size))
 clear hb
 clear hbn
 try simp only [Act.put, List.setIfInBounds_toArray, List.set_cons_zero, List.set_cons_succ]
 refine w_e ?_
 -- #2
 repeat ((fail_if_success (refine pl_id ?_)); go_step)
 refine w_i ?_
 refine w_q ?_
 refine w_1 (fun K hK => ?_)
 go_simp
 refine (isOne_yes (who : Int) _ (by omega) (by have := HWH.out; omega)).mono ?_
 rintro e wz ⟨rfl, hz⟩
 replace hz := hz.symm
 subst hz
 go_simp
 refine hK.out _ _ ?_
 clear hK
 try simp only [Act.put, List.setIfInBounds_toArray, List.set_cons_zero, List.set_cons_succ]
 refine w_q ?_
 refine w_e ?_
 -- #3
 repeat ((fail_if_success (refine pl_id ?_)); go_step)
 refine w_i ?_
 refine w_1 (fun K hK => ?_)
 go_simp
 refine (newSeatsM_own _).mono ?_
 rintro e wc ⟨g0, rfl, q1, q2, ho, hb⟩
 have S := hide (row_lowB ho HB.out.size)
 go_simp
 refine hK.out _ _ ?_
 clear hK
 replace R := hide ((unhide R).below hb)
 have hsz := hb.size
 have hsz2 := HB.out.size
 replace HN := hide (And.intro HN.out (And.intro hsz (And.intro q1 q2)))
 clear hsz hsz2
 replace HB := hide (HB.out.trans (hb.mono HB.out.size))
 clear hb
 clear ho q1 q2
 try simp only [Act.put, List.setIfInBounds_toArray, List.set_cons_zero, List.set_cons_succ]
 refine w_1 (fun K hK => ?_)
 go_simp
 refine (newSeatsI_own _).mono ?_
 rintro e wc ⟨g3, rfl, q1, q2, ho, hb⟩
 have I3 := hide (row_lowB ho HB.out.size)
 go_simp
 refine hK.out _ _ ?_
 clear hK
 replace R := hide ((unhide R).below hb)
 replace S := hide (own_below' (unhide S) hb)
 have hsz := hb.size
 have hsz2 := HB.out.size
 replace HN := hide (And.intro HN.out (And.intro hsz (And.intro q1 q2)))
 clear hsz hsz2
 replace HB := hide (HB.out.trans (hb.mono HB.out.size))
 clear hb
 clear ho q1 q2
 try simp only [Act.put, List.setIfInBounds_toArray, List.set_cons_zero, List.set_cons_succ]
 refine w_1 (fun K hK => ?_)
 go_simp
 refine (newSeatsI_own _).mono ?_
 rintro e wc ⟨g7, rfl, q1, q2, ho, hb⟩
 have I7 := hide (row_lowB ho HB.out.size)
 go_simp
 refine hK.out _ _ ?_
 clear hK
 replace R := hide ((unhide R).below hb)
 replace S := hide (own_below' (unhide S) hb)
 replace I3 := hide (own_below' (unhide I3) hb)
 have hsz := hb.size
 have hsz2 := HB.out.size
 replace HN := hide (And.intro HN.out (And.intro hsz (And.intro q1 q2)))
 clear hsz hsz2
 replace HB := hide (HB.out.trans (hb.mono HB.out.size))
 clear hb
 clear ho q1 q2
 try simp only [Act.put, List.setIfInBounds_toArray, List.set_cons_zero, List.set_cons_succ]
 refine w_1 (fun K hK => ?_)
 go_simp
 refine (newSeatsW_own _).mono ?_
 rintro e wc ⟨g8, rfl, q1, q2, ho, hb⟩
 have W8 := hide (row_lowB ho HB.out.size)
 go_simp
 refine hK.out _ _ ?_
 clear hK
 replace R := hide ((unhide R).below hb)
 replace S := hide (own_below' (unhide S) hb)
 replace I3 := hide (own_below' (unhide I3) hb)
 replace I7 := hide (own_below' (unhide I7) hb)
 have hsz := hb.size
 have hsz2 := HB.out.size
 replace HN := hide (And.intro HN.out (And.intro hsz (And.intro q1 q2)))
 clear hsz hsz2
 replace HB := hide (HB.out.trans (hb.mono HB.out.size))
 clear hb
 clear ho q1 q2
 try simp only [Act.put, List.setIfInBounds_toArray, List.set_cons_zero, List.set_cons_succ]
 refine w_q ?_
 refine w_1 (fun K hK => ?_)
 refine op_alloc (cs := noWld) (t := 60) ?_ (fun bV wc V hb hbn => ?_)
 · go_simp
   try rfl
 refine hK.out _ _ ?_
 clear hK
 replace V := hide V
 replace R := hide ((unhide R).below hb)
 replace S := hide (own_below' (unhide S) hb)
 replace I3 := hide (own_below' (unhide I3) hb)
 replace I7 := hide (own_below' (unhide I7) hb)
 replace W8 := hide (own_below' (unhide W8) hb)
 have hsz := hb.size
 have hsz2 := HB.out.size
 replace HN := hide (And.intro HN.out (And.intro hsz hbn))
 clear hsz hsz2
 replace HB := hide (HB.out.trans (hb.mono HB.out.size))
 clear hb
 clear hbn
 try simp only [Act.put, List.setIfInBounds_toArray, List.set_cons_zero, List.set_cons_succ]
 refine w_1 (fun K hK => ?_)
 have OLD := V
 refine op_row 60 (.tmp 3) (.tmp 12) rfl bV (wldC (.slice (some ⟨g0, 0, none⟩) 8 8) (.slice none 0 0) (.slice none 0 0) (.slice (some ⟨g3, 0, none⟩) 8 8) (.slice none 0 0) (.slice none 0 0) (.slice none 0 0) (.slice (some ⟨g7, 0, none⟩) 8 8) (.slice (some ⟨g8, 0, none⟩) 8 8) (.slice none 0 0)) _ 60 rfl rfl (unhide V) info_wd rfl (one_w10 _ _ _ _ _ _ _ _ _ _ _ _ _ _ _ _ _ _ _ _ _ _ _ _ _ _ _ _ _ _) (fun wc NEW hg hs => ?_)
 refine hK.out _ _ ?_
 clear hK
 replace V := hide NEW
 clear NEW
 replace R := hide (blk_grown (unhide R) hg (by have q := HN.out; omega))
 replace S := hide (row_grown (unhide S) hg (unhide OLD) (by decide))
 replace I3 := hide (row_grown (unhide I3) hg (unhide OLD) (by decide))
 replace I7 := hide (row_grown (unhide I7) hg (unhide OLD) (by decide))
 replace W8 := hide (row_grown (unhide W8) hg (unhide OLD) (by decide))
 replace HB := hide (below_grown HB.out hg HB.out.size (by have q := HN.out; omega))
 replace HN := hide (And.intro HN.out hs)
 clear hg hs OLD
 try simp only [Act.put]
 refine w_e ?_
 -- #4
 repeat go_step
 refine r_i (Later) ?_
 have hb : Below wc.heap.size wc wc.drew := (Below.refl _ _).drew
 have hsq : wc.drew.heap.size = wc.heap.size := rfl
 generalize wc.drew = wc at *
 replace R := hide ((unhide R).below hb)
 replace V := hide ((unhide V).below hb)
 replace S := hide (own_below' (unhide S) hb)
 replace I3 := hide (own_below' (unhide I3) hb)
 replace I7 := hide (own_below' (unhide I7) hb)
 replace W8 := hide (own_below' (unhide W8) hb)
 have hsz := hb.size
 have hsz2 := HB.out.size
 replace HN := hide (And.intro HN.out (And.intro hsz hsq))
 clear hsz hsz2
 replace HB := hide (HB.out.trans (hb.mono HB.out.size))
 clear hb
 clear hsq
 refine r_q 0 ?_
 refine r_q 1 ?_ (h := by intro w' hw'; have x := (V.out.below hw').g 0; go_simp; all_goals rfl)
 refine r_q 2 ?_; refine r_q 3 ?_; refine r_q 4 ?_; refine r_q 6 ?_
 refine r_1 5 (fun K hK => ?_)
 go_simp
 refine (iMakNew_any (who : Int) 1 _).mono ?_
 rintro e wc ⟨rfl, hb⟩
 go_simp
 refine hK.out _ _ (hb) ?_
 clear hK
 replace R := hide ((unhide R).below hb)
 replace V := hide ((unhide V).below hb)
 replace S := hide (own_below' (unhide S) hb)
 replace I3 := hide (own_below' (unhide I3) hb)
 replace I7 := hide (own_below' (unhide I7) hb)
 replace W8 := hide (own_below' (unhide W8) hb)
 have hsz := hb.size
 have hsz2 := HB.out.size
 replace HN := hide (And.intro HN.out hsz)
 clear hsz hsz2
 replace HB := hide (HB.out.trans (hb.mono HB.out.size))
 clear hb
 try simp only [Act.put, List.setIfInBounds_toArray, List.set_cons_zero, List.set_cons_succ]
 refine r_1 7 (fun K hK => ?_)
 go_simp
 refine (iMakNew_any (who : Int) 2 _).mono ?_
 rintro e wc ⟨rfl, hb⟩
 go_simp
 refine hK.out _ _ (hb) ?_
 clear hK
 replace R := hide ((unhide R).below hb)
 replace V := hide ((unhide V).below hb)
 replace S := hide (own_below' (unhide S) hb)
 replace I3 := hide (own_below' (unhide I3) hb)
 replace I7 := hide (own_below' (unhide I7) hb)
 replace W8 := hide (own_below' (unhide W8) hb)
 have hsz := hb.size
 have hsz2 := HB.out.size
 replace HN := hide (And.intro HN.out hsz)
 clear hsz hsz2
 replace HB := hide (HB.out.trans (hb.mono HB.out.size))
 clear hb
 try simp only [Act.put, List.setIfInBounds_toArray, List.set_cons_zero, List.set_cons_succ]
 refine r_1 8 (fun K hK => ?_)
 go_simp
 refine (iMemFirst_any (who : Int) (mkNew (who : Int) 1) (mkNew (who : Int) 2) _ (mkNew_mx _ _) (mkNew_mx _ _)).mono ?_
 rw [HM.out]
 rintro e wc ⟨v, rfl, ⟨ks, os, rfl, h1, h2⟩, hb⟩
 have KS := hide (row_lowB h1 HB.out.size)
 have OS := hide (row_lowB h2 HB.out.size)
 obtain ⟨ko, kc, rfl⟩ := row_form' h1
 obtain ⟨oo, oc, rfl⟩ := row_form' h2
 obtain ⟨kl, hkl⟩ : ∃ n, m.keys.length = n := ⟨_, rfl⟩
 obtain ⟨ol, hol⟩ : ∃ n, m.own.length = n := ⟨_, rfl⟩
 rw [hkl, hol]
 rw [hkl] at KS
 rw [hol] at OS
 have HKL := hide hkl
 have HOL := hide hol
 go_simp
 refine hK.out _ _ (hb) ?_
 clear hK
 replace R := hide ((unhide R).below hb)
 replace V := hide ((unhide V).below hb)
 replace S := hide (own_below' (unhide S) hb)
 replace I3 := hide (own_below' (unhide I3) hb)
 replace I7 := hide (own_below' (unhide I7) hb)
 replace W8 := hide (own_below' (unhide W8) hb)
 have hsz := hb.size
 have hsz2 := HB.out.size
 replace HN := hide (And.intro HN.out hsz)
 clear hsz hsz2
 replace HB := hide (HB.out.trans (hb.mono HB.out.size))
 clear hb
 clear h1 h2 hkl hol
 try simp only [Act.put, List.setIfInBounds_toArray, List.set_cons_zero, List.set_cons_succ]
 refine r_q 9 ?_ (h := by intro w' hw'; have hi8 : (who : Int) < 8 := (by have := HWH.out; omega); go_simp; all_goals rfl)
 refine r_l 10 (fun K hK => ?_)
 have hth := row_there (unhide S) (who * 7) 7 (by have := HWH.out; omega)
 refine Go.wp_store_mid 42 (.tmp 22) (.tmp 21) rfl g0 (who * 7) (memC m.inn m.who (.slice ko kl kc) (.slice oo ol oc) m.ep m.init m.tag) rfl rfl hth info_mm (one_mm _ _ _ _ _ _ _ _ _ _ _) ?_
 refine hK.out _ _ ?_
 clear hK hth
 have hg := grown_setCells g0 (memC m.inn m.who (.slice ko kl kc) (.slice oo ol oc) m.ep m.init m.tag).toList (who * 7) wc
 have hs := row_setMany (memC m.inn m.who (.slice ko kl kc) (.slice oo ol oc) m.ep m.init m.tag).toList (who * 7) (unhide S)
 have hs2 := size_cellsAt g0 (memC m.inn m.who (.slice ko kl kc) (.slice oo ol oc) m.ep m.init m.tag).toList (who * 7) wc
 rw [setMany_eq _ _ _ (by rw [scells_len]; show who * 7 + 7 ≤ _; simp; have := HWH.out; omega)] at hs
 have hcut := scells_cut (List.replicate 8 sx0) who (m.inn, m.who, .slice ko kl kc, .slice oo ol oc, m.ep, m.init, m.tag) (by simp; exact HWH.out)
 have hs3 : ((scells (List.replicate 8 sx0)).take (who * 7) ++ (memC m.inn m.who (.slice ko kl kc) (.slice oo ol oc) m.ep m.init m.tag).toList ++ (scells (List.replicate 8 sx0)).drop (who * 7 + (memC m.inn m.who (.slice ko kl kc) (.slice oo ol oc) m.ep m.init m.tag).toList.length)) = scells ((List.replicate 8 sx0).set who (m.inn, m.who, .slice ko kl kc, .slice oo ol oc, m.ep, m.init, m.tag)) := hcut
 rw [hs3] at hs
 clear hcut hs3
 generalize wc.setCells g0 (who * 7) (memC m.inn m.who (.slice ko kl kc) (.slice oo ol oc) m.ep m.init m.tag).toList = wx at *
 have hap1 := row_apart (unhide KS) (unhide S) (by decide)
 have hap2 := row_apart (unhide OS) (unhide S) (by decide)
 replace R := hide (blk_grown (unhide R) hg (by have q := HN.out; omega))
 replace V := hide (blk_grown (unhide V) hg (by have q := HN.out; omega))
 replace I3 := hide (row_kept (unhide I3) hg (by have q := HN.out; omega))
 replace I7 := hide (row_kept (unhide I7) hg (by have q := HN.out; omega))
 replace W8 := hide (row_kept (unhide W8) hg (by have q := HN.out; omega))
 replace KS := hide (World.ownsRow.kept (unhide KS) hg hap1)
 replace OS := hide (World.ownsRow.kept (unhide OS) hg hap2)
 replace S := hide hs
 replace HB := hide (below_grown HB.out hg HB.out.size (by have q := HN.out; omega))
 replace HN := hide (And.intro HN.out hs2)
 clear hg hs hs2 hap1 hap2
 try simp only [Act.put]
 -- #5
 repeat ((fail_if_success (refine pl_id ?_)); go_step)
 refine w_i ?_
 refine w_q ?_
 refine w_q ?_ (h := by have x := V.out.g 3; go_simp; all_goals rfl)
 refine w_q ?_
 refine w_q ?_ (h := by have hi8 : (who : Int) < 8 := (by have := HWH.out; omega); go_simp; all_goals rfl)
 refine w_1 (fun K hK => ?_)
 have hx : who < 8 := HWH.out
 have e0 := (unhide I3).cellAt who (by omega)
 have f0 := (unhide I3).frozenAt who
 have e1 : (List.replicate 8 (Value.int .i64 0))[who]? = some (.int .i64 0) := by rw [List.getElem?_replicate, if_pos hx]
 rw [e1] at e0
 refine op_rowset who (.int .i64 2) (unhide I3) ?_ (fun wx ho hg hs => ?_)
 · go_simp
 refine hK.out _ _ ?_
 clear hK e0 e1 f0 hx
 replace R := hide (blk_grown (unhide R) hg (by have q := HN.out; omega))
 replace V := hide (blk_grown (unhide V) hg (by have q := HN.out; omega))
 replace S := hide (row_kept (unhide S) hg (by have q := HN.out; omega))
 replace I7 := hide (row_kept (unhide I7) hg (by have q := HN.out; omega))
 replace W8 := hide (row_kept (unhide W8) hg (by have q := HN.out; omega))
 replace KS := hide (World.ownsRow.kept (unhide KS) hg (row_apart (unhide KS) (unhide I3) (by decide)))
 replace OS := hide (World.ownsRow.kept (unhide OS) hg (row_apart (unhide OS) (unhide I3) (by decide)))
 replace HB := hide (below_grown HB.out hg HB.out.size (by have q := HN.out; omega))
 replace I3 := hide ho
 replace HN := hide (And.intro HN.out hs)
 clear hg hs ho
 try simp only [Act.put]
 refine w_e ?_
 -- #6
 repeat ((fail_if_success (refine pl_id ?_)); go_step)
 refine w_i ?_
 refine w_1 (fun K hK => ?_)
 go_simp
 refine (handedOut_any bV _ _ _ _ _ _ _ _ _ _ _ _ _ _ _ _ _ _ _ _ _ _ _ _ _ _ _ _ _ _ _ (unhide V)).mono ?_
 rintro e wc ⟨rfl, hb⟩
 go_simp
 refine hK.out _ _ ?_
 clear hK
 replace R := hide ((unhide R).below hb)
 replace V := hide ((unhide V).below hb)
 replace KS := hide (own_below' (unhide KS) hb)
 replace OS := hide (own_below' (unhide OS) hb)
 replace S := hide (own_below' (unhide S) hb)
 replace I3 := hide (own_below' (unhide I3) hb)
 replace I7 := hide (own_below' (unhide I7) hb)
 replace W8 := hide (own_below' (unhide W8) hb)
 have hsz := hb.size
 have hsz2 := HB.out.size
 replace HN := hide (And.intro HN.out hsz)
 clear hsz hsz2
 replace HB := hide (HB.out.trans (hb.mono HB.out.size))
 clear hb
 try simp only [Act.put, List.setIfInBounds_toArray, List.set_cons_zero, List.set_cons_succ]
 refine w_1 (fun K hK => ?_)
 have OLD := R
 refine op_row 34 (.tmp 2) (.tmp 27) rfl bR (wldC (.slice (some ⟨g0, 0, none⟩) 8 8) (.slice none 0 0) (.slice none 0 0) (.slice (some ⟨g3, 0, none⟩) 8 8) (.slice none 0 0) (.slice none 0 0) (.slice none 0 0) (.slice (some ⟨g7, 0, none⟩) 8 8) (.slice (some ⟨g8, 0, none⟩) 8 8) (.slice none 0 0)) _ 34 rfl rfl (unhide R) info_wld2 rfl (one_w10 _ _ _ _ _ _ _ _ _ _ _ _ _ _ _ _ _ _ _ _ _ _ _ _ _ _ _ _ _ _) (fun wc NEW hg hs => ?_)
 refine hK.out _ _ ?_
 clear hK
 replace R := hide NEW
 clear NEW
 replace V := hide (blk_grown (unhide V) hg (by have q := HN.out; omega))
 replace KS := hide (row_grown (unhide KS) hg (unhide OLD) (by decide))
 replace OS := hide (row_grown (unhide OS) hg (unhide OLD) (by decide))
 replace S := hide (row_grown (unhide S) hg (unhide OLD) (by decide))
 replace I3 := hide (row_grown (unhide I3) hg (unhide OLD) (by decide))
 replace I7 := hide (row_grown (unhide I7) hg (unhide OLD) (by decide))
 replace W8 := hide (row_grown (unhide W8) hg (unhide OLD) (by decide))
 replace HB := hide (below_grown HB.out hg HB.out.size (by have q := HN.out; omega))
 replace HN := hide (And.intro HN.out hs)
 clear hg hs OLD
 try simp only [Act.put]
 refine w_e ?_
 have lw := load_wld (unhide R) rfl
 go_wp2_with fail
 refine bodyPost_ret (v := .agg (wldC (.slice (some ⟨g0, 0, none⟩) 8 8) (.slice none 0 0) (.slice none 0 0) (.slice (some ⟨g3, 0, none⟩) 8 8) (.slice none 0 0) (.slice none 0 0) (.slice none 0 0) (.slice (some ⟨g7, 0, none⟩) 8 8) (.slice (some ⟨g8, 0, none⟩) 8 8) (.slice none 0 0))) (results_cell rfl rfl lw) rfl ?_
 exact ⟨g0, g3, g7, g8, _, _, rfl, unhide S, by unfold Own; rw [HKL.out]; exact unhide KS, by unfold OwnM; rw [HOL.out]; exact unhide OS, unhide I3, unhide I7, unhide W8, by have q := HN.out; omega, HB.out⟩
end Go.Proofs.YtabpaaahobakpaaGreat
/-
  The laws' own helpers over worlds of nothing; GrpNew of nobody.
-/
namespace Go.Proofs.YtabpaaahobakpaaGreat
open Go.RowKit

set_option maxHeartbeats 1000000 in
theorem iGrpNew_no (p : Int) (w : World) (h : p < 0 ∨ 8 ≤ p) : Calls Tryz.prog 6 #[.int .i64 p] w fun e w' => e = .returned (.agg noWld) ∧ Below w.heap.size w w' := by
  have HB : Hid (Below w.heap.size w (w.alloc (.cells noWld 34))) := (Below.refl _ _).alloc (Nat.le_refl _) _
  have A := hide (Blk.new w 34 noWld)
  go_enter Tryz.func6, Tryz.ntmps6
  go_wp2_with fail
  refine (isOne_no p _ h).mono ?_
  rintro e wz ⟨rfl, hz⟩
  replace hz := hz.symm
  subst hz
  go_wp2_with fail
  have lw := load_wld (unhide A) rfl
  refine bodyPost_ret (v := .agg noWld) (results_cell rfl rfl lw) rfl ?_
  exact ⟨rfl, HB.out⟩
set_option maxHeartbeats 1000000 in
theorem sGrpNew_no (p : Int) (w : World) (h : p < 0 ∨ 8 ≤ p) : Calls Tryz.prog 8 #[.int .i64 p] w fun e w' => e = .returned (.agg noWld) ∧ Below w.heap.size w w' := by
  have HB : Hid (Below w.heap.size w (w.alloc (.cells noWld 34))) := (Below.refl _ _).alloc (Nat.le_refl _) _
  have A := hide (Blk.new w 34 noWld)
  have hin : inB 0 7 p = false := by unfold inB; simp; omega
  go_enter Tryz.func8, Tryz.ntmps8
  go_wp2_with fail
  refine (l1In_any p 0 7 _).mono ?_
  rw [hin]
  rintro e wz ⟨rfl, hz⟩
  replace hz := hz.symm
  subst hz
  go_wp2_with fail
  have lw := load_wld (unhide A) rfl
  refine bodyPost_ret (v := .agg noWld) (results_cell rfl rfl lw) rfl ?_
  exact ⟨rfl, HB.out⟩
end Go.Proofs.YtabpaaahobakpaaGreat
