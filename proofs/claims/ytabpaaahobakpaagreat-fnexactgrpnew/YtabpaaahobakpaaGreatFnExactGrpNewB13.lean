/-
  The law over GrpNew, of one of the group.
-/
import Derived.Test.YtabpaaahobakpaaGreatFnExactGrpNewB8
import Derived.Test.YtabpaaahobakpaaGreatFnExactGrpNewB9
import Derived.Test.YtabpaaahobakpaaGreatFnExactGrpNewB10
import Derived.Test.YtabpaaahobakpaaGreatFnExactGrpNewB11
import Derived.Test.YtabpaaahobakpaaGreatFnExactGrpNewB12
namespace Go.Proofs.YtabpaaahobakpaaGreat
open Go.RowKit
set_option linter.unusedVariables false

theorem fst_len (p : Int) (s t : ByteArray) : (fstOf p s t).keys.length ≤ 15 ∧ (fstOf p s t).own.length ≤ 4 := by
  by_cases h : fstOk p s t
  · rw [fst_yes h]
    refine ⟨?_, ?_⟩
    · show (setKeys bare p.toNat s).length ≤ 15
      rw [setKeys_len]
      exact Nat.le_refl _
    · show (pathOf (chainOf (7 + p)) s).length ≤ 4
      rw [pathOf_len]
      exact chain_len4 _
  · rw [fst_no h]
    exact ⟨Nat.zero_le _, Nat.zero_le _⟩

/-- The specification's, with its rows' forms. -/
theorem sGrpNew_new (who : Nat) (w : World) (hw : who < 8) :
    Calls Tryz.prog 8 #[.int .i64 (who : Int)] w fun e w' => ∃ (a0 a1 a2 a3 a4 a5 a6 a7 a8 a9 : Option Addr) (l0 l1 l2 l3 l4 l5 l6 l7 l8 l9 c0 c1 c2 c3 c4 c5 c6 c7 c8 c9 : Nat),
      e = .returned (.agg (wldC (.slice a0 l0 c0) (.slice a1 l1 c1) (.slice a2 l2 c2) (.slice a3 l3 c3) (.slice a4 l4 c4) (.slice a5 l5 c5) (.slice a6 l6 c6) (.slice a7 l7 c7) (.slice a8 l8 c8) (.slice a9 l9 c9))) ∧
      NewP w' (.agg (wldC (.slice a0 l0 c0) (.slice a1 l1 c1) (.slice a2 l2 c2) (.slice a3 l3 c3) (.slice a4 l4 c4) (.slice a5 l5 c5) (.slice a6 l6 c6) (.slice a7 l7 c7) (.slice a8 l8 c8) (.slice a9 l9 c9))) (newW who).seats (newW who).fresh (newW who).said 8 ∧ Below w.heap.size w w' := by
  refine (sGrpNew_any who w hw [] (fun b hb => by cases hb)).mono ?_
  rintro e w' ⟨X', t0, t1, t2, t3, t4, t5, t6, t7, t8, t9, rfl, hr, hb⟩
  have hp := newP_rows hr
  obtain ⟨⟨a0, p0, rfl⟩, ⟨a1, p1, rfl⟩, ⟨a2, p2, rfl⟩, ⟨a3, p3, rfl⟩, ⟨a4, p4, rfl⟩, ⟨a5, p5, rfl⟩, ⟨a6, p6, rfl⟩, ⟨a7, p7, rfl⟩, ⟨a8, p8, rfl⟩, ⟨a9, p9, rfl⟩⟩ := hr.forms
  exact ⟨_, _, _, _, _, _, _, _, _, _, _, _, _, _, _, _, _, _, _, _, _, _, _, _, _, _, _, _, _, _, rfl, hp, hb⟩

set_option maxRecDepth 100000 in
set_option maxHeartbeats 8000000 in
theorem exGrpNew_in (who : Nat) (w : World) (hw : who < 8) :
    Calls Tryz.prog 4 #[.int .i64 (who : Int)] w fun e w' => e = .returned (.bool true) ∧ Below w.heap.size w w' := by
  obtain ⟨m, hm⟩ : ∃ m, fstOf (who : Int) (mkNew (who : Int) 1) (mkNew (who : Int) 2) = m := ⟨_, rfl⟩
  obtain ⟨hkl, hol⟩ := fst_len (who : Int) (mkNew (who : Int) 1) (mkNew (who : Int) 2)
  rw [hm] at hkl hol
  have HM := hide hm
  have HW := hide hw
  have HL := hide (len_new who)
  have HFR := hide (fresh_new hw)
  clear hm
  go_enter Tryz.func4, Tryz.ntmps4
  go_wp2_with fail
  refine (sGrpNew_new who _ hw).mono ?_
  rintro e w1 ⟨a0, a1, a2, a3, a4, a5, a6, a7, a8, a9, l0, l1, l2, l3, l4, l5, l6, l7, l8, l9, c0, c1, c2, c3, c4, c5, c6, c7, c8, c9, rfl, hp1, hb1⟩
  have W1 := hide hp1
  have HB1 := hide hb1
  have hs1 := hb1.size
  clear hp1 hb1
  go_wp2_with fail
  refine (iGrpNew_any who _ hw m HM.out).mono ?_
  rintro e w2 ⟨g0, g3, g7, g8, ks, os, rfl, r0, rk, ro, r3, r7, r8, hne, hb2⟩
  have hs2 := hb2.size
  rw [World.size_alloc] at hs2 r0 rk ro r3 r7 r8
  have al : Below w2.heap.size w2 (w2.alloc (.cells (wldN g0 8 (.slice (some ⟨g3, 0, none⟩) 8 8) (.slice (some ⟨g7, 0, none⟩) 8 8) g8 8 none none none none none none 0 0 0 0 0 0) 34)) := (Below.refl _ _).alloc (Nat.le_refl _) _
  have A2 := hide (((Blk.new w1 34 (wldC (.slice a0 l0 c0) (.slice a1 l1 c1) (.slice a2 l2 c2) (.slice a3 l3 c3) (.slice a4 l4 c4) (.slice a5 l5 c5) (.slice a6 l6 c6) (.slice a7 l7 c7) (.slice a8 l8 c8) (.slice a9 l9 c9))).below hb2).below al)
  have C2 := hide (Blk.new w2 34 (wldN g0 8 (.slice (some ⟨g3, 0, none⟩) 8 8) (.slice (some ⟨g7, 0, none⟩) 8 8) g8 8 none none none none none none 0 0 0 0 0 0))
  have H2 : Hid (Below w1.heap.size w1 (w2.alloc (.cells (wldN g0 8 (.slice (some ⟨g3, 0, none⟩) 8 8) (.slice (some ⟨g7, 0, none⟩) 8 8) g8 8 none none none none none none 0 0 0 0 0 0) 34))) := (((Below.refl w1.heap.size w1).alloc (Nat.le_refl _) _).trans (hb2.mono (by rw [World.size_alloc]; omega))).alloc (by omega) _
  have HB2 : Hid (Below w.heap.size w (w2.alloc (.cells (wldN g0 8 (.slice (some ⟨g3, 0, none⟩) 8 8) (.slice (some ⟨g7, 0, none⟩) 8 8) g8 8 none none none none none none 0 0 0 0 0 0) 34))) := ((HB1.out.alloc HB1.out.size _).trans (hb2.mono (by rw [World.size_alloc]; omega))).alloc (by omega) _
  have S2 := hide (own_below' r0 al)
  have K2 := hide (own_below' rk al)
  have M2 := hide (own_below' ro al)
  have I2 : Hid (OwnI (w1.heap.size + 1) (w2.alloc (.cells (wldN g0 8 (.slice (some ⟨g3, 0, none⟩) 8 8) (.slice (some ⟨g7, 0, none⟩) 8 8) g8 8 none none none none none none 0 0 0 0 0 0) 34)) (.slice (some ⟨g3, 0, none⟩) 8 8) (newW who).fresh) := by
    refine hide ?_
    unfold OwnI
    rw [← HFR.out, HL.out.2.1]
    exact own_below' r3 al
  have J2 : Hid (OwnI (w1.heap.size + 1) (w2.alloc (.cells (wldN g0 8 (.slice (some ⟨g3, 0, none⟩) 8 8) (.slice (some ⟨g7, 0, none⟩) 8 8) g8 8 none none none none none none 0 0 0 0 0 0) 34)) (.slice (some ⟨g7, 0, none⟩) 8 8) (newW who).said) := own_below' r7 al
  have N2 := hide (own_below' r8 al)
  have G2 := hide (newP_own HM.out none none none none none none 0 0 0 0 0 0 (unhide S2) (unhide K2) (unhide M2) (unhide I2) (unhide J2) (unhide N2))
  clear r0 rk ro r3 r7 r8 hb2 al HB1
  have W2 := hide ((unhide W1).below H2.out)
  have lw := load_wld (unhide A2) rfl
  go_wp2_with (refine wpList_load_whole rfl 34 _ rfl ⟨w1.heap.size, 0, none⟩ rfl _ lw ?_)
  refine (eqWld_any _ _ (newW who).seats (newW who).fresh (newW who).said 8 _ (by have := HL.out.1; omega) (by omega) (unhide G2) (unhide W2)).mono ?_
  rintro e w3 ⟨rfl, hb⟩
  have hs3 := hb.size
  rw [World.size_alloc] at hs3
  have A3 := hide ((unhide A2).below hb)
  have C3 := hide ((unhide C2).below hb)
  have S3 := hide (own_below' (unhide S2) hb)
  have K3 := hide (own_below' (unhide K2) hb)
  have M3 := hide (own_below' (unhide M2) hb)
  have I3 := hide (OwnI.below (unhide I2) hb)
  have J3 := hide (OwnI.below (unhide J2) hb)
  have N3 := hide (own_below' (unhide N2) hb)
  have H3 := hide (H2.out.trans (hb.mono H2.out.size))
  have HB3 := hide (HB2.out.trans (hb.mono HB2.out.size))
  clear hb A2 C2 S2 K2 M2 I2 J2 N2 G2 W2 H2 HB2 lw
  have lw := load_wld (unhide C3) rfl
  go_wp2_with (refine wpList_load_whole rfl 34 _ rfl ⟨w2.heap.size, 0, none⟩ rfl _ lw ?_)
  refine (markWld_any (w1.heap.size + 1) g0 8 who (m.inn, m.who, ks, os, m.ep, m.init, m.tag) m.keys m.own _ _ (newW who).fresh (newW who).said g8 8 _ none none none none none none 0 0 0 0 0 0 _ (by omega) HW.out (by omega) (by omega) (by have := HL.out.2.1; omega) (by have := HL.out.2.2.1; omega)
    (by rw [srow_zero]; exact unhide S3) (unhide K3) (unhide M3) (unhide I3) (unhide J3) (by simpa [Value.ownBlock] using hne) (unhide N3) (fun v hv => ⟨none, 0, List.eq_of_mem_replicate hv⟩) w2.heap.size _ (unhide C3)).mono ?_
  rintro e w4 ⟨rfl, q1, q2, q3, q4, q5, q6, q7, q8⟩
  have A4 : Hid (Blk w4 w1.heap.size 34 (wldC (.slice a0 l0 c0) (.slice a1 l1 c1) (.slice a2 l2 c2) (.slice a3 l3 c3) (.slice a4 l4 c4) (.slice a5 l5 c5) (.slice a6 l6 c6) (.slice a7 l7 c7) (.slice a8 l8 c8) (.slice a9 l9 c9))) := (q8.block w1.heap.size (by omega)).trans (unhide A3)
  have C4 := hide q7
  have S4 := hide q1
  have K4 := hide q2
  have M4 := hide q3
  have I4 := hide q4
  have J4 := hide q5
  have N4 := hide q6
  have H4 : Hid (Below w1.heap.size w1 w4) := H3.out.trans (q8.mono (by omega))
  have HB4 : Hid (Below w.heap.size w w4) := HB3.out.trans (q8.mono (by omega))
  clear q1 q2 q3 q4 q5 q6 q7 q8 A3 C3 S3 K3 M3 I3 J3 N3 H3 HB3 lw
  obtain ⟨y, hy⟩ : ∃ y : Int, ((41 + (m.keys.length + 2 * m.own.length) + (newW who).fresh.length + (newW who).said.length : Nat) : Int) = y := ⟨_, rfl⟩
  rw [hy]
  have hy0 : decide (y < 0) = false := by simp; omega
  have HY := hide hy
  clear hy
  have HH : Hid (∀ u : World, Below w4.heap.size w4 u → Calls Tryz.prog 15 #[.agg (wldN g0 8 (.slice (some ⟨g3, 0, none⟩) 8 8) (.slice (some ⟨g7, 0, none⟩) 8 8) g8 8 none none none none none none 0 0 0 0 0 0), .int .i64 1] u fun e w' => e = .returned (.int .i64 y) ∧ Below u.heap.size u w') := fun u hu => by
    have := heldWld_any g0 8 who m.keys.length m.own.length (newW who).fresh.length (newW who).said.length (m.inn, m.who, ks, os, m.ep, m.init, m.tag) (.slice (some ⟨g3, 0, none⟩) 8 8) (.slice (some ⟨g7, 0, none⟩) 8 8) g8 8 none none none none none none 0 0 0 0 0 0 u HW.out (by omega) (by omega) (by have := HL.out.2.1; omega) (by have := HL.out.2.2.1; omega)
      ((unhide S4).below hu) ((unhide K4).below hu) ((unhide M4).below hu) ((unhide I4).below hu) ((unhide J4).below hu) ((unhide N4).below hu)
    rw [HY.out] at this
    exact this
  have lw := load_wld (unhide C4) rfl
  go_wp2_with (refine wpList_load_whole rfl 34 _ rfl ⟨w2.heap.size, 0, none⟩ rfl _ lw ?_)
  refine (HH.out _ (Below.refl _ _)).mono ?_
  rintro e w5 ⟨rfl, hb⟩
  have hs5 := hb.size
  have A5 := hide ((unhide A4).below hb)
  have C5 := hide ((unhide C4).below hb)
  have HB5 := hide (HB4.out.trans (hb.mono HB4.out.size))
  have H5 := hide (H4.out.trans (hb.mono H4.out.size))
  have H45 := hide hb
  clear hb A4 C4 HB4 H4 lw
  go_wp2_with fail
  refine (iGrpNew_any who _ HW.out m HM.out).mono ?_
  rintro e w6 ⟨k0, k3, k7, k8, ks6, os6, rfl, r0, rk, ro, r3, r7, r8, _, hb6⟩
  have hs6 := hb6.size
  have al : Below w6.heap.size w6 (w6.alloc (.cells (wldN k0 8 (.slice (some ⟨k3, 0, none⟩) 8 8) (.slice (some ⟨k7, 0, none⟩) 8 8) k8 8 none none none none none none 0 0 0 0 0 0) 34)) := (Below.refl _ _).alloc (Nat.le_refl _) _
  have A6 := hide (((unhide A5).below hb6).below al)
  have C6 := hide (((unhide C5).below hb6).below al)
  have H46 := hide (((unhide H45).trans (hb6.mono hs5)).alloc (by omega) (.cells (wldN k0 8 (.slice (some ⟨k3, 0, none⟩) 8 8) (.slice (some ⟨k7, 0, none⟩) 8 8) k8 8 none none none none none none 0 0 0 0 0 0) 34))
  have H6 : Hid (Below w1.heap.size w1 (w6.alloc (.cells (wldN k0 8 (.slice (some ⟨k3, 0, none⟩) 8 8) (.slice (some ⟨k7, 0, none⟩) 8 8) k8 8 none none none none none none 0 0 0 0 0 0) 34))) := (H5.out.trans (hb6.mono H5.out.size)).alloc (by have := H5.out.size; omega) _
  have HB6 : Hid (Below w.heap.size w (w6.alloc (.cells (wldN k0 8 (.slice (some ⟨k3, 0, none⟩) 8 8) (.slice (some ⟨k7, 0, none⟩) 8 8) k8 8 none none none none none none 0 0 0 0 0 0) 34))) := (HB5.out.trans (hb6.mono HB5.out.size)).alloc (by have := HB5.out.size; omega) _
  have I6 : OwnI w5.heap.size w6 (.slice (some ⟨k3, 0, none⟩) 8 8) (newW who).fresh := by
    unfold OwnI
    rw [← HFR.out, HL.out.2.1]
    exact r3
  have J6 : OwnI w5.heap.size w6 (.slice (some ⟨k7, 0, none⟩) 8 8) (newW who).said := r7
  have G6 := hide (NewP.below (newP_own HM.out none none none none none none 0 0 0 0 0 0 r0 rk ro I6 J6 r8) al)
  have W6 := hide ((unhide W1).below H6.out)
  clear r0 rk ro r3 r7 r8 I6 J6 hb6 al A5 C5 HB5 H5 H45
  have lw := load_wld (unhide A6) rfl
  go_wp2_with (refine wpList_load_whole rfl 34 _ rfl ⟨w1.heap.size, 0, none⟩ rfl _ lw ?_)
  refine (eqWld_any _ _ (newW who).seats (newW who).fresh (newW who).said 8 _ (by have := HL.out.1; omega) (by omega) (unhide G6) (unhide W6)).mono ?_
  rintro e w7 ⟨rfl, hb⟩
  have C7 := hide ((unhide C6).below hb)
  have HB7 := hide (HB6.out.trans (hb.mono HB6.out.size))
  have H47 := hide ((unhide H46).trans (hb.mono H46.out.size))
  clear hb A6 C6 G6 W6 H6 HB6 H46 lw
  have lw := load_wld (unhide C7) rfl
  go_wp2_with (refine wpList_load_whole rfl 34 _ rfl ⟨w2.heap.size, 0, none⟩ rfl _ lw ?_)
  refine (HH.out _ (unhide H47)).mono ?_
  rintro e w8 ⟨rfl, hb⟩
  have HB8 := hide (HB7.out.trans (hb.mono HB7.out.size))
  clear hb C7 HB7 lw H47
  go_wp2_with fail
  go_ret
  exact ⟨rfl, unhide HB8⟩

set_option maxRecDepth 100000 in
set_option maxHeartbeats 8000000 in
theorem exGrpNew_no (p : Int) (w : World) (h : p < 0 ∨ 8 ≤ p) :
    Calls Tryz.prog 4 #[.int .i64 p] w fun e w' => e = .returned (.bool true) ∧ Below w.heap.size w w' := by
  have HP := hide h
  clear h
  go_enter Tryz.func4, Tryz.ntmps4
  go_wp2_with fail
  refine (sGrpNew_no p _ HP.out).mono ?_
  rintro e w1 ⟨rfl, hb⟩
  have HB1 := hide hb
  clear hb
  go_wp2_with fail
  refine (iGrpNew_no p _ HP.out).mono ?_
  rintro e w2 ⟨rfl, hb⟩
  have hs2 := hb.size
  rw [World.size_alloc] at hs2
  have al : Below w2.heap.size w2 (w2.alloc (.cells noWld 34)) := (Below.refl _ _).alloc (Nat.le_refl _) _
  have A2 := hide (((Blk.new w1 34 noWld).below hb).below al)
  have C2 := hide (Blk.new w2 34 noWld)
  have HB2 : Hid (Below w.heap.size w (w2.alloc (.cells noWld 34))) := ((HB1.out.alloc HB1.out.size _).trans (hb.mono (by rw [World.size_alloc]; have := HB1.out.size; omega))).alloc (by have := HB1.out.size; omega) _
  clear hb al HB1
  have lw := load_wld (unhide A2) rfl
  go_wp2_with (refine wpList_load_whole rfl 34 _ rfl ⟨w1.heap.size, 0, none⟩ rfl _ lw ?_)
  refine (eqWld0_any _).mono ?_
  rintro e w3 ⟨rfl, hb⟩
  have A3 := hide ((unhide A2).below hb)
  have C3 := hide ((unhide C2).below hb)
  have HB3 := hide (HB2.out.trans (hb.mono HB2.out.size))
  clear hb A2 C2 HB2 lw
  have lw := load_wld (unhide C3) rfl
  go_wp2_with (refine wpList_load_whole rfl 34 _ rfl ⟨w2.heap.size, 0, none⟩ rfl _ lw ?_)
  refine (markWld0_any _).mono ?_
  rintro e w4 ⟨rfl, hb⟩
  have A4 := hide ((unhide A3).below hb)
  have C4 := hide ((unhide C3).below hb)
  have HB4 := hide (HB3.out.trans (hb.mono HB3.out.size))
  clear hb A3 C3 HB3 lw
  have lw := load_wld (unhide C4) rfl
  go_wp2_with (refine wpList_load_whole rfl 34 _ rfl ⟨w2.heap.size, 0, none⟩ rfl _ lw ?_)
  refine (heldWld0_any _).mono ?_
  rintro e w5 ⟨rfl, hb⟩
  have A5 := hide ((unhide A4).below hb)
  have C5 := hide ((unhide C4).below hb)
  have HB5 := hide (HB4.out.trans (hb.mono HB4.out.size))
  clear hb A4 C4 HB4 lw
  go_wp2_with fail
  refine (iGrpNew_no p _ HP.out).mono ?_
  rintro e w6 ⟨rfl, hb6⟩
  have hs6 := hb6.size
  have al : Below w6.heap.size w6 (w6.alloc (.cells noWld 34)) := (Below.refl _ _).alloc (Nat.le_refl _) _
  have A6 := hide (((unhide A5).below hb6).below al)
  have C6 := hide (((unhide C5).below hb6).below al)
  have HB6 : Hid (Below w.heap.size w (w6.alloc (.cells noWld 34))) := (HB5.out.trans (hb6.mono HB5.out.size)).alloc (by have := HB5.out.size; omega) _
  clear hb6 al A5 C5 HB5
  have lw := load_wld (unhide A6) rfl
  go_wp2_with (refine wpList_load_whole rfl 34 _ rfl ⟨w1.heap.size, 0, none⟩ rfl _ lw ?_)
  refine (eqWld0_any _).mono ?_
  rintro e w7 ⟨rfl, hb⟩
  have C7 := hide ((unhide C6).below hb)
  have HB7 := hide (HB6.out.trans (hb.mono HB6.out.size))
  clear hb A6 C6 HB6 lw
  have lw := load_wld (unhide C7) rfl
  go_wp2_with (refine wpList_load_whole rfl 34 _ rfl ⟨w2.heap.size, 0, none⟩ rfl _ lw ?_)
  refine (heldWld0_any _).mono ?_
  rintro e w8 ⟨rfl, hb⟩
  have HB8 := hide (HB7.out.trans (hb.mono HB7.out.size))
  clear hb C7 HB7 lw
  go_wp2_with fail
  go_ret
  exact ⟨rfl, unhide HB8⟩
end Go.Proofs.YtabpaaahobakpaaGreat
