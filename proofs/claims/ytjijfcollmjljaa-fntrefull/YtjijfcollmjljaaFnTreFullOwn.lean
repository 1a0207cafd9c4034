/-
  Proved: at every code the law FnTreFull returns true (of a tree in which each has set its keys, one behind the other, TreCover of each place is it; where one is cleared then TreCover of the first is one place each level, beside those above it), and nothing that was there is written. No condition.
-/
import Derived.Test.YtjijfcollmjljaaFnTreFullB1
import Derived.Test.YtjijfcollmjljaaFnTreFullB6
import Derived.Test.YtjijfcollmjljaaFnTreFullB7
import Derived.Test.YtjijfcollmjljaaFnTreFullB10
import Derived.Test.YtjijfcollmjljaaFnTreFullB5
namespace Go.Proofs.Ytjijfcollmjljaa
open Go.ChangeShapes Go.WideShapes Go.ChangeAt Go.RowKit
open Go.ChangeMaps (open_string shut_string)
set_option linter.unusedVariables false

theorem one_rowF (w : World) (x : Int) (t : TypeId) : IRow (w.alloc (.cells #[.int .i64 x] t)) (.slice (some ⟨w.heap.size, 0, none⟩) 1 1) [x] := by
  refine .inr ⟨⟨w.heap.size, 0, none⟩, 1, rfl, Nat.le_refl _, by unfold maxLen; omega, fun i hi => ?_⟩
  obtain rfl : i = 0 := by simpa using hi
  simp [Addr.add, go_sem]
theorem full_small (n k : Nat) (h : k ≤ 8) : ∀ x ∈ fullAt n k, x.size ≤ maxLen := fun x hx => Nat.le_trans (treOk_small (fullAt_ok n k h) x hx) (by unfold maxLen; omega)
theorem full_len (n k : Nat) (h : k ≤ 8) : (fullAt n k).length = 15 := (treOk_iff.1 (fullAt_ok n k h)).1

set_option maxRecDepth 100000 in
set_option maxHeartbeats 2000000 in
theorem walk_FnTreFull (a0 : Option Addr) (len0 cap0 : Nat) (z0 : List Int) (w : World) (w0 : IsRow .u8 w a0 len0 cap0 z0) :
    Calls Try.prog 5 #[.slice a0 len0 cap0] w fun e w' => e = .returned (.bool true) ∧ Below w.heap.size w w' := by
  clear w0
  by_cases h : (1048576 : Int) < (len0 : Int)
  · go_enter Try.func5, Try.ntmps5
    go_wp2_with fail
    go_ret
    exact ⟨rfl, Below.refl _ _⟩
  have h2 : decide ((1048576 : Int) < (len0 : Int)) = false := by simpa using h
  have hn0 : len0 ≤ 1048576 := by omega
  clear h
  obtain ⟨i0, hi, hz0, hz1, hz2⟩ := info_parts info_int2
  have hI := hide (And.intro hi (And.intro hz0 (And.intro hz1 hz2)))
  clear hi hz0 hz1 hz2
  go_enter Try.func5, Try.ntmps5
  go_wp2_with fail
  refine (iTreNew_any _).mono ?_
  rintro e w2 ⟨v2, rfl, ho2, hb2⟩
  obtain ⟨ao, kp, hv2⟩ := row_form' ho2
  subst hv2
  have T0 := hide (TV.new ho2.srow)
  have HB0 := hide (hb2.trans ((below_new w2 (.cells #[.slice ao bare.length kp] 25)).mono hb2.size))
  have HW2 : Hid (w.heap.size ≤ w2.heap.size) := hb2.size
  clear ho2 hb2
  rw [show bare.length = 15 from rfl] at *
  go_wp2_with fail
  go_loopw [4] (fun i wr => ∃ (k : Nat) (ao kp' : _), k ≤ 8 ∧ i = .int .i64 (k : Int) ∧ Hid (TV w2.heap.size (.slice ao 15 kp') (fullAt len0 k) wr) ∧ Hid (Below w.heap.size w wr)) (fun i _ => 8 - (intOf i).toNat)
  case atStart => exact ⟨0, ao, kp, by omega, rfl, T0, HB0⟩
  case round =>
    clear T0 HB0
    obtain ⟨k, ao, kp, hk, rfl, T, HB⟩ := hrel
    by_cases hlt : k < 8
    · have hlt2 : (k : Int) < 8 := by omega
      have i3 : IntKind.i64.wrap ((k : Int) + 1) = (k : Int) + 1 := by simp [IntKind.wrap, IntKind.bits, IntKind.signed]; omega
      have i4 : IntKind.i64.wrap ((k : Int) + (len0 : Int)) = (((k + len0 : Nat)) : Int) := by simp [IntKind.wrap, IntKind.bits, IntKind.signed]; omega
      obtain ⟨m, hm⟩ : ∃ m, m = (k + len0) % 8 := ⟨_, rfl⟩
      have hm8 : m < 8 := by omega
      have i5 : (((k + len0 : Nat)) : Int).tmod 8 = (m : Int) := by
        rw [Int.tmod_eq_emod_of_nonneg (by omega)]
        omega
      have HST : Hid (setRes (fullAt len0 k) ((m : Nat) : Int) (mkNew (k : Int) 1) = fullAt len0 (k + 1)) := by
        show _ = _
        rw [setRes_yes (fullAt_ok len0 k hk) hm8 (new_may k hlt), hm]
        rfl
      have HM := hide (full_small len0 k hk)
      have HYL : Hid ((fullAt len0 (k + 1)).length = 15) := full_len len0 (k + 1) (by omega)
      have HNM : Hid ((mkNew (k : Int) 1).size ≤ maxLen) := by
        have := new_may k hlt
        unfold maySet at this
        simp at this
        exact Nat.le_trans this.2 (by unfold maxLen; omega)
      have hnn : (k + len0 : Nat) ≤ 1048584 := by omega
      generalize k + len0 = nn at i4 i5 hnn
      clear hm
      have HREL : Hid (∀ a b w', Hid (TV w2.heap.size (.slice a 15 b) (fullAt len0 (k + 1)) w') → Hid (Below w.heap.size w w') → ∃ (k' : Nat) (ao kp' : _), k' ≤ 8 ∧ Value.int .i64 ((k : Int) + 1) = .int .i64 (k' : Int) ∧ Hid (TV w2.heap.size (.slice ao 15 kp') (fullAt len0 k') w') ∧ Hid (Below w.heap.size w w')) := fun a b w' h1 h2 => ⟨k + 1, a, b, by omega, by simp, h1, h2⟩
      generalize fullAt len0 (k + 1) = ys at *
      generalize fullAt len0 k = xs at *
      replace T := hide (unhide T).drew
      replace HB := hide HB.out.drew
      go_wp2_with fail
      refine wp_region_later (by kernel_rfl) ?_
      refine later_take (i := 0) (d := 19) (v := ?_) (by kernel_rfl) (by kernel_rfl) (by kernel_rfl) (by kernel_rfl) (fun _ _ _ h => h) (fun oi hoi => ?_) ?_
      rotate_left
      · simp at hoi
        subst hoi
        refine ⟨by rfl, fun w' hw' => ?_⟩
        have hx := (box_below (unhide T).box hw').cell
        go_simp
        all_goals rfl
      try simp only [Act.put, List.setIfInBounds_toArray, List.set_cons_zero, List.set_cons_succ]
      refine later_take (i := 1) (d := 20) (v := ?_) (by kernel_rfl) (by kernel_rfl) (by kernel_rfl) (by kernel_rfl) (fun _ _ _ h => h) (fun oi hoi => ?_) ?_
      rotate_left
      · simp at hoi
        subst hoi
        refine ⟨by rfl, fun w' hw' => ?_⟩
        go_simp
        all_goals rfl
      try simp only [Act.put, List.setIfInBounds_toArray, List.set_cons_zero, List.set_cons_succ]
      refine later_take (i := 2) (d := 21) (v := ?_) (by kernel_rfl) (by kernel_rfl) (by kernel_rfl) (by kernel_rfl) (fun _ _ _ h => h) (fun oi hoi => ?_) ?_
      rotate_left
      · simp at hoi
        subst hoi
        refine ⟨by rfl, fun w' hw' => ?_⟩
        go_simp
        all_goals rfl
      try simp only [Act.put, List.setIfInBounds_toArray, List.set_cons_zero, List.set_cons_succ]
      refine later_take (i := 3) (d := 22) (v := ?_) (by kernel_rfl) (by kernel_rfl) (by kernel_rfl) (by kernel_rfl) (fun _ _ _ h => h) (fun oi hoi => ?_) ?_
      rotate_left
      · simp at hoi
        subst hoi
        refine ⟨by rfl, fun w' hw' => ?_⟩
        go_simp
        all_goals rfl
      try simp only [Act.put, List.setIfInBounds_toArray, List.set_cons_zero, List.set_cons_succ]
      refine later_take (i := 4) (d := 23) (v := ?_) (by kernel_rfl) (by kernel_rfl) (by kernel_rfl) (by kernel_rfl) (fun _ _ _ h => h) (fun oi hoi => ?_) ?_
      rotate_left
      · simp at hoi
        subst hoi
        refine ⟨by rfl, fun w' hw' => ?_⟩
        go_simp
        all_goals rfl
      try simp only [Act.put, List.setIfInBounds_toArray, List.set_cons_zero, List.set_cons_succ]
      refine later_take (i := 5) (d := 24) (v := ?_) (by kernel_rfl) (by kernel_rfl) (by kernel_rfl) (by kernel_rfl) (fun _ _ _ h => h) (fun oi hoi => ?_) ?_
      rotate_left
      · simp at hoi
        subst hoi
        refine ⟨by rfl, fun w' hw' => ?_⟩
        go_simp
        all_goals rfl
      try simp only [Act.put, List.setIfInBounds_toArray, List.set_cons_zero, List.set_cons_succ]
      refine later_take (i := 6) (d := 25) (v := ?_) (by kernel_rfl) (by kernel_rfl) (by kernel_rfl) (by kernel_rfl) (fun _ _ _ h => h) (fun oi hoi => ?_) ?_
      rotate_left
      · simp at hoi
        subst hoi
        refine ⟨by rfl, fun w' hw' => ?_⟩
        go_simp
        all_goals rfl
      try simp only [Act.put, List.setIfInBounds_toArray, List.set_cons_zero, List.set_cons_succ]
      refine later_one (i := 7) (by kernel_rfl) (fun oi K hoi hK => ?_)
      simp at hoi
      subst hoi
      refine ⟨by rfl, ?_⟩
      go_simp
      refine (iMakNew_any (k : Int) 1 _).mono ?_
      rintro e w3 ⟨rfl, hb⟩
      go_simp
      refine hK.out _ _ hb ?_
      clear hK
      replace T := hide ((unhide T).below hb)
      replace HB := hide (HB.out.trans (hb.mono HB.out.size))
      clear hb
      try simp only [Act.put, List.setIfInBounds_toArray, List.set_cons_zero, List.set_cons_succ]
      refine later_one (i := 8) (by kernel_rfl) (fun oi K hoi hK => ?_)
      simp at hoi
      subst hoi
      refine ⟨by rfl, ?_⟩
      go_simp
      refine (iTreSet_any _ xs ((m : Nat) : Int) _ _ (unhide T).row (unhide HM) HNM.out).mono ?_
      rw [HST.out]
      rintro e w4 ⟨u4, rfl, ho4, hb⟩
      obtain ⟨ao4, kp4, hu4⟩ := row_form' ho4
      subst hu4
      rw [HYL.out] at ho4 ⊢
      go_simp
      refine hK.out _ _ hb ?_
      clear hK
      replace T := hide ((unhide T).below hb)
      replace HB := hide (HB.out.trans (hb.mono HB.out.size))
      clear hb
      have l1 := (unhide T).box.cell
      have l2 := (unhide T).box.frozen
      have T5 : Hid (TV w2.heap.size (.slice ao4 15 kp4) ys (w4.setCell ⟨w2.heap.size, 0, none⟩ (.slice ao4 15 kp4))) := ⟨(unhide T).box.set _, own_srow (base := w3.heap.size) (xs := ys) (row_box ho4 (unhide T).box (by decide) _)⟩
      have HB5 := hide (below_box HB.out HW2.out (.slice ao4 15 kp4))
      clear ho4 T HB
      try simp only [Act.put, List.setIfInBounds_toArray, List.set_cons_zero, List.set_cons_succ]
      refine ord_last (i := 9) (by kernel_rfl) (by kernel_rfl) (by kernel_rfl) (fun oi K hoi hK => ?_)
      simp at hoi
      subst hoi
      refine ⟨by rfl, ?_⟩
      go_simp
      refine hK.out _ _ ?_
      clear hK
      try simp only [Act.put, List.setIfInBounds_toArray, List.set_cons_zero, List.set_cons_succ]
      go_wp2_with fail
      go_roundw
      case rel => exact HREL.out _ _ _ T5 HB5
      case measure => simp [intOf]; omega
    · have hlt2 : decide ((k : Int) < 8) = false := by simp; omega
      obtain rfl : k = 8 := by omega
      have HM := hide (full_small len0 8 (by omega))
      have HOK : Hid (treOk (fullAt len0 8) = true) := fullAt_ok len0 8 (by omega)
      have HIN : Hid ((inRes (fullAt len0 8)).length = 8) := full_in len0
      have HCV : Hid (∀ p, p < 15 → covRes (fullAt len0 8) ((p : Nat) : Int) = [((p : Nat) : Int)]) := fun p hp => full_cover len0 p hp
      obtain ⟨m, hm⟩ : ∃ m, m = len0 % 8 := ⟨_, rfl⟩
      have hm8 : m < 8 := by omega
      have i5 : (len0 : Int).tmod 8 = (m : Int) := by
        rw [Int.tmod_eq_emod_of_nonneg (by omega)]
        omega
      have HCL : Hid (clrRes (fullAt len0 8) ((m : Nat) : Int) = clearOf (fullAt len0 8) m) := clrRes_yes (fullAt_ok len0 8 (by omega)) hm8
      have HCC : Hid (covRes (clearOf (fullAt len0 8) m) 0 = ints (sibs m)) := full_clear len0 m
      have HZM : Hid (∀ x ∈ clearOf (fullAt len0 8) m, x.size ≤ maxLen) := clear_small (full_small len0 8 (by omega)) m
      have HZL : Hid ((clearOf (fullAt len0 8) m).length = 15) := by show _ = _; rw [clearOf_len]; exact full_len len0 8 (by omega)
      obtain ⟨q1, q2⟩ := sibs_ok m hm8
      have HS2 : Hid (∀ c, c < 3 → sideOf ((ints (sibs m)).getD c 0) ∈ chainOf (leafOf (m : Int))) := by
        intro c hc
        unfold ints
        rw [List.getD_eq_getElem?_getD, List.getElem?_map, List.getElem?_eq_getElem (by omega)]
        exact q2 _ (List.getElem_mem _)
      have HS1 : Hid ((ints (sibs m)).length = 3) := by show _ = _; rw [ints_len]; exact q1
      generalize clearOf (fullAt len0 8) m = zs at *
      generalize fullAt len0 8 = xs at *
      generalize ints (sibs m) = cv at *
      clear hm q1 q2
      have l1 := (unhide T).box.cell
      go_wp2_with fail
      refine (iTreOk_any _ xs _ (unhide T).row (unhide HM)).mono ?_
      rw [HOK.out]
      rintro e w3 ⟨rfl, hb⟩
      replace T := hide ((unhide T).below hb)
      replace HB := hide (HB.out.trans (hb.mono HB.out.size))
      clear hb l1
      have l1 := (unhide T).box.cell
      go_wp2_with fail
      refine (iTreIn_any _ xs _ (unhide T).row (unhide HM)).mono ?_
      rintro e w4 ⟨u4, rfl, ho4, hb⟩
      obtain ⟨uo, uc, hu4⟩ := row_form' ho4
      subst hu4
      rw [HIN.out]
      replace T := hide ((unhide T).below hb)
      replace HB := hide (HB.out.trans (hb.mono HB.out.size))
      clear hb l1 ho4
      go_wp2_with fail
      generalize wr = wOld at *
      go_loopw [5] (fun i wr => ∃ p : Nat, p ≤ 15 ∧ i = .int .i64 (p : Int) ∧ Hid (TV w2.heap.size (.slice ao 15 kp) xs wr) ∧ Hid (Below w.heap.size w wr)) (fun i _ => 15 - (intOf i).toNat)
      case atStart => exact ⟨0, by omega, rfl, T, HB⟩
      case round =>
        clear T HB
        obtain ⟨p, hp, rfl, T, HB⟩ := hrel
        by_cases hlp : p < 15
        · have hlp2 : (p : Int) < 15 := by omega
          have i6 : IntKind.i64.wrap ((p : Int) + 1) = (p : Int) + 1 := by simp [IntKind.wrap, IntKind.bits, IntKind.signed]; omega
          have l1 := (unhide T).box.cell
          have HC1 := hide (HCV.out p hlp)
          go_wp2_with fail
          refine (iTreCover_any _ xs (p : Int) _ (unhide T).row (unhide HM)).mono ?_
          rw [HC1.out]
          rintro e w5 ⟨u5, rfl, ho5, hb⟩
          have al := below_new w5 (.cells #[.int .i64 (p : Int)] 3)
          have J5 := hide (ho5.irow.below al)
          have K5 := hide (one_rowF w5 (p : Int) 3)
          replace T := hide (((unhide T).below hb).below al)
          replace HB := hide ((HB.out.trans (hb.mono HB.out.size)).alloc (Nat.le_trans HB.out.size hb.size) (.cells #[.int .i64 (p : Int)] 3))
          clear hb ho5 al l1
          go_wp2_with fail
          refine (keInts_any _ _ [(p : Int)] [(p : Int)] _ (unhide J5) (unhide K5)).mono ?_
          rw [show decide ([(p : Int)] = [(p : Int)]) = true by simp]
          rintro e w6 ⟨rfl, hb⟩
          replace T := hide ((unhide T).below hb)
          replace HB := hide (HB.out.trans (hb.mono HB.out.size))
          clear hb J5 K5
          go_wp2_with fail
          go_roundw
          case rel => exact ⟨p + 1, by omega, by simp, T, HB⟩
          case measure => simp [intOf]; omega
        · have hlp2 : decide ((p : Int) < 15) = false := by simp; omega
          obtain rfl : p = 15 := by omega
          have l1 := (unhide T).box.cell
          go_wp2_with fail
          refine (iTreClear_any _ xs ((m : Nat) : Int) _ (unhide T).row (unhide HM)).mono ?_
          rw [HCL.out]
          rintro e w7 ⟨u7, rfl, ho7, hb⟩
          obtain ⟨zo, zc, hu7⟩ := row_form' ho7
          subst hu7
          have Z := hide (TV.new ho7.srow)
          rw [HZL.out] at Z ⊢
          replace HB := hide ((HB.out.trans (hb.mono HB.out.size)).alloc (Nat.le_trans HB.out.size hb.size) (.cells #[.slice zo 15 zc] 25))
          clear hb ho7 l1 T
          have l1 := (unhide Z).box.cell
          go_wp2_with fail
          refine (iTreCover_any _ zs 0 _ (unhide Z).row (unhide HZM)).mono ?_
          rw [HCC.out]
          rintro e w8 ⟨u8, rfl, ho8, hb⟩
          obtain ⟨co, cc, hu8⟩ := row_form' ho8
          subst hu8
          rw [HS1.out] at ho8 ⊢
          have V := hide ho8.irow
          replace HB := hide (HB.out.trans (hb.mono HB.out.size))
          clear hb ho8 l1 Z
          obtain ⟨lf, hlf⟩ : ∃ lf, leafOf (m : Int) = lf := ⟨_, rfl⟩
          have hlf2 : 0 ≤ lf ∧ lf ≤ 14 := by rw [← hlf]; unfold leafOf; rw [if_pos (by omega)]; omega
          have HLF := hide hlf
          have XA : Hid (chainOf lf = lf :: upOf lf) := by show _ = _; unfold chainOf; rw [if_pos hlf2]
          have hlu : (upOf lf).length ≤ 4 := by rw [upOf_chain]; exact chain_len _
          have LA := hide (chain_len lf)
          rw [hlf] at HS2
          clear hlf hlf2
          go_wp2_with fail
          refine (iTreLeaf_any (m : Int) _).mono ?_
          rw [HLF.out]
          rintro e w8 ⟨rfl, rfl⟩
          go_wp2_with fail
          refine (iTreLeaf_any (m : Int) _).mono ?_
          rw [HLF.out]
          rintro e wz ⟨rfl, rfl⟩
          go_wp2_with fail
          refine (iTreUp_any lf _).mono ?_
          rintro e wcx ⟨vcx, rfl, hox, hbx⟩
          have Nx := hide hox.irow.news
          have hrx : Hid (wcx.ownsRow w8.heap.size 3 1 (.slice (some ⟨w8.heap.size, 0, none⟩) 1 1) 1 [.int .i64 lf]) := own_below' (World.ownsRow_lit (base := w8.heap.size) (e := 3) (size := 1) w8 #[.int .i64 lf] 1 (Nat.le_refl _) (by unfold maxLen; omega) rfl) hbx
          have hcx : Hid (Below w8.heap.size w8 wcx) := ((Below.refl _ _).alloc (Nat.le_refl _) _).trans (hbx.mono (by simp))
          clear hox hbx
          go_wp2_with (at_builtin; refine wpList_append_row _ rfl _ _ 33 rfl w8.heap.size 3 i0 (.int .i64 0) 1 8 Try.underlying33 (unhide hI).1 (unhide hI).2.1 (unhide hI).2.2.1 (unhide hI).2.2.2 rfl (by decide) _ _ _ rfl (unhide hrx) _ _ _ rfl (unhide Nx) (ints_one _) (by unfold maxLen; omega) (by omega) (unhide hcx).size ?_)
          intro vx wx hownx hgx
          have hox2 : OwnI w8.heap.size wx vx (chainOf lf) := by
            rw [XA.out]
            unfold OwnI
            rw [List.length_cons, Nat.add_comm]
            exact hownx
          have hbx2 : Below w8.heap.size w8 wx := (unhide hcx).grown hgx (unhide hcx).size (fun k hk => by cases hk; exact Nat.le_refl _)
          have R := hide hox2.irow
          replace V := hide ((unhide V).below hbx2)
          replace HB := hide (HB.out.trans (hbx2.mono HB.out.size))
          obtain ⟨ox, cx, hvx⟩ := row_form' hox2
          subst hvx
          clear hownx hgx hox2 hbx2 hrx hcx Nx hlu XA
          generalize chainOf lf = C at *
          go_wp2_with fail
          generalize wr = wOld2 at *
          go_loopw [10] (fun i wr => ∃ c : Nat, c ≤ 3 ∧ i = .int .i64 (c : Int) ∧ Hid (IRow wr (.slice co 3 cc) cv) ∧ Hid (IRow wr (.slice ox C.length cx) C) ∧ Hid (Below w.heap.size w wr)) (fun i _ => 3 - (intOf i).toNat)
          case atStart => exact ⟨0, by omega, rfl, V, R, HB⟩
          case round =>
            clear V R HB
            obtain ⟨c, hc, rfl, V, R, HB⟩ := hrel
            by_cases hlc : c < 3
            · have hlc2 : (c : Int) < 3 := by omega
              have i7 : IntKind.i64.wrap ((c : Int) + 1) = (c : Int) + 1 := by simp [IntKind.wrap, IntKind.bits, IntKind.signed]; omega
              have HSC := hide (HS2.out c hlc)
              obtain ⟨ax, c9, qx, _, _, qy⟩ := (unhide V).form
              rw [HS1.out] at qx qy
              simp only [Value.slice.injEq] at qx
              obtain ⟨rfl, _, rfl⟩ := qx
              obtain ⟨ad, rfl, hc1⟩ := qy c hlc
              clear qy
              generalize cv.getD c 0 = x at hc1 HSC
              go_wp2_with fail
              refine (iTreSide_any x _).mono ?_
              rintro e w10 ⟨rfl, hb⟩
              replace V := hide ((unhide V).below hb)
              replace R := hide ((unhide R).below hb)
              replace HB := hide (HB.out.trans (hb.mono HB.out.size))
              clear hb hc1
              go_wp2_with fail
              refine (keIn_any _ C (sideOf x) _ (unhide R)).mono ?_
              rw [decide_eq_true HSC.out]
              rintro e w11 ⟨rfl, rfl⟩
              go_wp2_with fail
              go_roundw
              case rel => exact ⟨c + 1, by omega, by simp, V, R, HB⟩
              case measure => simp [intOf]; omega
            · have hlc2 : decide ((c : Int) < 3) = false := by simp; omega
              go_wp2_with fail
              go_ret
              exact ⟨rfl, unhide HB⟩

set_option maxRecDepth 100000 in
theorem lifted_FnTreFull (os : Os) (started : os.Started) (H : Type) (enc : TypeId × Value → H) :
    ReturnsInHanded {} Try.checked os 5 .any (Rows.fnTreFullSpec.pre6 enc Try.prog Try.f5 Rows.fnTreFullRow.domain false) (Rows.fnTreFullSpec.post enc Try.prog Try.f5 false true false false) := by
  refine returnsInHanded_of_change (C := Try.checked) own started (by kernel_rfl) Try.func5
    (ChangeSpec.witness6 (enc := enc) (C := Try.checked) false ⟨#[], #[.slice none 0 0], []⟩ 8 (by kernel_rfl) (by kernel_rfl) (by kernel_rfl) (by kernel_rfl)) ?_
  intro W base args ds gs before hval0 hW hcnd _
  have hval : ∀ (j : Nat) t v, Try.f5.params[j]? = some t → args[j]? = some v → Value.okWide Try.prog W .any base t v := hval0
  have hW' := hW
  obtain ⟨p, q, hA0, hV, rfl, hfz, hnd⟩ := hW
  have hA : DataW.TrodAll enc Try.prog W 0 (fun _ => true) true Try.f5.params.toList args.toList ds p := hA0
  rw [Try.params5] at hA hval
  obtain ⟨v0, vs0, d0, ds0, p0, q0, hargs, rfl, rfl, h0, r0⟩ := trodAll_cons hA
  obtain ⟨rfl, rfl, rfl⟩ := trodAll_nil r0
  obtain rfl : args = #[v0] := by cases args; simp_all
  obtain ⟨rfl, rfl⟩ := trodVars_none hV
  obtain ⟨a0, len0, cap0, rfl⟩ := okWide_slice Try.underlying22 (hval 0 22 v0 rfl rfl)
  have k0 := h0
  have lt0 : ∀ x ∈ p0, x.block < W.heap.size := by obtain ⟨m, hm⟩ := k0; exact DataW.trod_lt m _ _ _ hm
  obtain ⟨z0, w0⟩ : ∃ zs, IsRow .u8 W a0 len0 cap0 zs := by
    obtain ⟨fuel, hf⟩ := h0
    rcases open_ints Try.underlying22 Try.underlying5 (by kernel_rfl) hf with ⟨hcs, _⟩ | ⟨x, l, c, zs, hcs, _, hl, hm, hz, _, hcell, hwz⟩
    · simp [Value.cells] at hcs
      obtain ⟨rfl, rfl, rfl⟩ := hcs
      exact ⟨[], .inl ⟨rfl, rfl, rfl, rfl⟩⟩
    · simp [Value.cells] at hcs
      obtain ⟨rfl, rfl, rfl⟩ := hcs
      exact ⟨zs, .inr ⟨_, rfl, hl, hm, by simpa using hz, hcell, hwz⟩⟩
  clear hA0 hval0
  refine (walk_FnTreFull a0 len0 cap0 z0 W w0).mono fun e W' ⟨he, bel⟩ => ?_
  subst he
  exact ⟨_, rfl, _, _, _, [], _, [], hW', trodAll_mk1 (shut_bool Try.underlying4 _), (trodAll_cons_mk (Below.trod laidOut (by kernel_rfl) (of_decide_eq_true (by kernel_rfl)) k0 bel lt0) trodAll_mk0), rfl, bel.frame _, fun h => by cases h⟩

theorem fnTreFull_holds : Rows.FnTreFullSaid :=
  OpenClaim.holds_of_wide 5 Try.f5 rfl rfl rfl rfl rfl rfl rfl ⟨rfl, rfl, rfl, rfl, rfl⟩ rfl rfl rfl rfl rfl (by kernel_rfl) Try.func5 (by kernel_rfl)
    (of_decide_eq_true (by kernel_rfl)) (by unfold Func.isWrapper; first | (rw [if_pos (by decide +kernel)]; kernel_rfl) | (rw [if_neg (by decide +kernel)]; exact ⟨rfl, rfl⟩))
    (fun os started H enc _ => lifted_FnTreFull os started H enc)

#print axioms fnTreFull_holds
end Go.Proofs.Ytjijfcollmjljaa
