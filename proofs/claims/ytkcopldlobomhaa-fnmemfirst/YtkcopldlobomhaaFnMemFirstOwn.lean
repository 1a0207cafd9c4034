/-
  Proved: at every code the law FnMemFirst returns true (who begins is ok, alone, in the first epoch, behind no commits, with the key of its secret, and all above it), and nothing that was there is written. No condition.
-/
import Derived.Test.YtkcopldlobomhaaFnMemFirstB1
import Derived.Test.YtkcopldlobomhaaFnMemFirstB7
import Derived.Test.YtkcopldlobomhaaFnMemFirstB8
import Derived.Test.YtkcopldlobomhaaFnMemFirstB9
namespace Go.Proofs.Ytkcopldlobomhaa
open Go.ChangeShapes Go.WideShapes Go.ChangeAt Go.RowKit
open Go.ChangeMaps (open_string shut_string)
set_option linter.unusedVariables false

theorem path_small : ∀ (ps : List Int) (s : ByteArray), s.size ≤ 300 → ∀ o ∈ pathOf ps s, o.2.size ≤ 300
  | [], _, _ => by simp [pathOf]
  | p :: ps, s, h => by
    intro o ho
    rcases List.mem_cons.1 ho with rfl | q
    · exact h
    · exact path_small ps (mkNext s) (mkNext_300 s) o q
theorem one_row (w : World) (x : Int) (t : TypeId) : IRow (w.alloc (.cells #[.int .i64 x] t)) (.slice (some ⟨w.heap.size, 0, none⟩) 1 1) [x] := by
  refine .inr ⟨⟨w.heap.size, 0, none⟩, 1, rfl, Nat.le_refl _, by unfold maxLen; omega, fun i hi => ?_⟩
  obtain rfl : i = 0 := by simpa using hi
  simp [Addr.add, go_sem]

set_option maxRecDepth 100000 in
set_option maxHeartbeats 8000000 in
theorem walk_FnMemFirst (a0 : Option Addr) (len0 cap0 : Nat) (z0 : List Int) (w : World) (w0 : IsRow .u8 w a0 len0 cap0 z0) :
    Calls Try.prog 3 #[.slice a0 len0 cap0] w fun e w' => e = .returned (.bool true) ∧ Below w.heap.size w w' := by
  have hR := hide w0
  clear w0
  by_cases h : (1048576 : Int) < (len0 : Int)
  · go_enter Try.func3, Try.ntmps3
    go_wp2_with fail
    go_ret
    exact ⟨rfl, Below.refl _ _⟩
  have h2 : decide ((1048576 : Int) < (len0 : Int)) = false := by simpa using h
  clear h
  go_enter Try.func3, Try.ntmps3
  go_wp2_with fail
  refine (DrawMemFirst_any a0 len0 cap0 z0 _ (unhide hR)).mono ?_
  rintro e w1 ⟨p, s, t, rfl, hp0, hp1, hs, ht, hb1⟩
  have HS : Hid (s.size ≤ maxLen) := le_maxLen (by omega)
  have HT : Hid (t.size ≤ maxLen) := le_maxLen (by omega)
  have HB1 := hide hb1
  have hle1 := hb1.size
  clear hb1 hR
  by_cases hfo : fstOk p s t
  · have hyes := fst_yes hfo
    obtain ⟨k, rfl⟩ : ∃ k : Nat, p = (k : Int) := ⟨p.toNat, by have := hfo.1; omega⟩
    have hk8 : k < 8 := by have := hfo.1; omega
    have hsm : s.size ≤ 292 := by have := hfo.2.1; unfold maySet at this; simp at this; exact this.2
    obtain ⟨KS, hKS⟩ : ∃ KS, setKeys bare k s = KS := ⟨_, rfl⟩
    obtain ⟨OW, hOW⟩ : ∃ OW, pathOf (chainOf (7 + (k : Int))) s = OW := ⟨_, rfl⟩
    have HM : Hid (fstOf (k : Int) s t = ⟨true, (k : Int), KS, OW, 0, t, ⟨#[]⟩⟩) := by show _ = _; rw [hyes, hOW, show ((k : Int)).toNat = k from rfl, hKS]
    have HOK : Hid (memOkI ⟨true, (k : Int), KS, OW, 0, t, ⟨#[]⟩⟩ = true) := by show _ = _; rw [← hKS, ← hOW]; exact fst_ok k hk8 s t hfo.2.1 hfo.2.2
    have HIN : Hid (inRes KS = [(k : Int)]) := by show _ = _; rw [← hKS]; exact fst_in k hk8 s hfo.2.1
    have HKL : Hid (KS.length = 15) := by show _ = _; rw [← hKS, setKeys_len]; rfl
    have HKM : Hid (∀ x ∈ KS, x.size ≤ maxLen) := by
      intro x hx
      rw [← hKS] at hx
      exact le_maxLen (Nat.le_trans (treOk_small (treOk_set treOk_bare hk8 hfo.2.1) x hx) (by omega))
    have HOM : Hid (∀ o ∈ OW, o.2.size ≤ maxLen) := by
      intro o ho
      rw [← hOW] at ho
      exact le_maxLen (Nat.le_trans (path_small _ s (by omega) o ho) (by omega))
    have HKEY0 := fst_key k hk8 s
    rw [hKS] at HKEY0
    have HLF0 : leafOf (k : Int) = ((7 + k : Nat) : Int) := by unfold leafOf; rw [if_pos (by omega)]; omega
    have hlf1 : 7 + k < 15 := by omega
    obtain ⟨lf, hlf⟩ : ∃ lf, lf = 7 + k := ⟨_, rfl⟩
    rw [← hlf] at HKEY0 HLF0 hlf1
    have hlf2 : (lf : Int) < 15 := by omega
    have HKEY := hide HKEY0
    have HLF := hide HLF0
    clear hyes hfo hKS hOW HKEY0 HLF0 hlf
    go_wp2_with fail
    refine (iMemFirst_any (k : Int) s t _ HS.out HT.out).mono ?_
    rw [HM.out]
    rintro e w2 ⟨v2, rfl, ⟨ks, os, rfl, ho2, hp2⟩, hb2⟩
    obtain ⟨a1, c1, hv1⟩ := row_form' ho2
    obtain ⟨a2, c2, hv2⟩ := row_form' hp2
    subst hv1 hv2
    simp only at ho2 hp2 ⊢
    rw [HKL.out] at ho2 ⊢
    have hq := ho2
    unfold Own at hq
    rw [HKL.out] at hq
    obtain ⟨g, cc, hv, _⟩ := row15 hq
    simp only [Value.slice.injEq] at hv
    obtain ⟨rfl, _, rfl⟩ := hv
    clear hq
    have al : Below w2.heap.size w2 (w2.alloc (.cells (memC true (k : Int) (.slice (some ⟨g, 0, none⟩) 15 c1) (.slice a2 OW.length c2) 0 t ⟨#[]⟩) 30)) := (Below.refl _ _).alloc (Nat.le_refl _) _
    have A := hide (Blk.new w2 30 (memC true (k : Int) (.slice (some ⟨g, 0, none⟩) 15 c1) (.slice a2 OW.length c2) 0 t ⟨#[]⟩))
    have G := hide (ho2.srow.below al)
    have H := hide (hp2.mrow.below al)
    have HB : Hid (Below w.heap.size w (w2.alloc (.cells (memC true (k : Int) (.slice (some ⟨g, 0, none⟩) 15 c1) (.slice a2 OW.length c2) 0 t ⟨#[]⟩) 30))) := (HB1.out.trans (hb2.mono hle1)).alloc (Nat.le_trans hle1 hb2.size) _
    clear ho2 hp2 hb2 al HB1
    go_wp2_with fail
    generalize w2.alloc (.cells (memC true (k : Int) (.slice (some ⟨g, 0, none⟩) 15 c1) (.slice a2 OW.length c2) 0 t ⟨#[]⟩) 30) = W at *
    refine wp_region_later (by kernel_rfl) ?_
    refine later_take (i := 0) (d := 20) (v := ?_) (by kernel_rfl) (by kernel_rfl) (by kernel_rfl) (by kernel_rfl) (fun _ _ _ h => h) (fun oi hoi => ?_) ?_
    rotate_left
    · simp at hoi
      subst hoi
      refine ⟨by rfl, fun w' hw' => ?_⟩
      have hx := Blk.below (w := W.drew) (unhide A) hw'
      have x0 := hx.cell 0
      have x1 := hx.cell 1
      have x2 := hx.cell 2
      have x3 := hx.cell 3
      have x4 := hx.cell 4
      have x5 := hx.cell 5
      have x6 := hx.cell 6
      simp only [List.getElem?_toArray, List.getElem?_cons_succ, List.getElem?_cons_zero] at x0 x1 x2 x3 x4 x5 x6
      go_simp
      all_goals rfl
    try simp only [Act.put, List.setIfInBounds_toArray, List.set_cons_zero, List.set_cons_succ]
    refine later_take (i := 1) (d := 21) (v := ?_) (by kernel_rfl) (by kernel_rfl) (by kernel_rfl) (by kernel_rfl) (fun _ _ _ h => h) (fun oi hoi => ?_) ?_
    rotate_left
    · simp at hoi
      subst hoi
      refine ⟨by rfl, fun w' hw' => ?_⟩
      go_simp
      all_goals rfl
    try simp only [Act.put, List.setIfInBounds_toArray, List.set_cons_zero, List.set_cons_succ]
    refine later_take (i := 2) (d := 22) (v := ?_) (by kernel_rfl) (by kernel_rfl) (by kernel_rfl) (by kernel_rfl) (fun _ _ _ h => h) (fun oi hoi => ?_) ?_
    rotate_left
    · simp at hoi
      subst hoi
      refine ⟨by rfl, fun w' hw' => ?_⟩
      go_simp
      all_goals rfl
    try simp only [Act.put, List.setIfInBounds_toArray, List.set_cons_zero, List.set_cons_succ]
    refine later_take (i := 3) (d := 23) (v := ?_) (by kernel_rfl) (by kernel_rfl) (by kernel_rfl) (by kernel_rfl) (fun _ _ _ h => h) (fun oi hoi => ?_) ?_
    rotate_left
    · simp at hoi
      subst hoi
      refine ⟨by rfl, fun w' hw' => ?_⟩
      go_simp
      all_goals rfl
    try simp only [Act.put, List.setIfInBounds_toArray, List.set_cons_zero, List.set_cons_succ]
    refine later_one (i := 4) (by kernel_rfl) (fun oi K hoi hK => ?_)
    simp at hoi
    subst hoi
    refine ⟨by rfl, ?_⟩
    go_simp
    refine (sMemFirst_any (k : Int) s t _ HS.out HT.out).mono ?_
    rw [HM.out]
    rintro e w3 ⟨v3, rfl, ⟨ks3, os3, rfl, ho3, hp3⟩, hb3⟩
    obtain ⟨a3, c3, hv3⟩ := row_form' ho3
    obtain ⟨a4, c4, hv4⟩ := row_form' hp3
    subst hv3 hv4
    simp only at ho3 hp3 ⊢
    go_simp
    refine hK.out _ _ hb3 ?_
    clear hK
    have A3 := hide (Blk.below (w := W.drew) (unhide A) hb3)
    have G3 := hide (SRow.below (w := W.drew) (unhide G) hb3)
    have H3 := hide (MRow.below (w := W.drew) (unhide H) hb3)
    have HB3 := hide (HB.out.drew.trans (hb3.mono HB.out.size))
    have R3 := hide ho3.srow
    have S3 := hide hp3.mrow
    clear ho3 hp3 hb3 A G H HB
    try simp only [Act.put, List.setIfInBounds_toArray, List.set_cons_zero, List.set_cons_succ]
    refine later_one (i := 5) (by kernel_rfl) (fun oi K hoi hK => ?_)
    simp at hoi
    subst hoi
    refine ⟨by rfl, ?_⟩
    go_simp
    refine (keMember_same ⟨true, (k : Int), KS, OW, 0, t, ⟨#[]⟩⟩ _ _ _ _ _ (unhide G3) (unhide H3) (unhide R3) (unhide S3)).mono ?_
    rintro e w4 ⟨rfl, hb4⟩
    go_simp
    refine hK.out _ _ hb4 ?_
    clear hK
    have A4 := hide ((unhide A3).below hb4)
    have G4 := hide ((unhide G3).below hb4)
    have H4 := hide ((unhide H3).below hb4)
    have HB4 := hide (HB3.out.trans (hb4.mono HB3.out.size))
    clear hb4 A3 G3 H3 HB3 R3 S3
    try simp only [Act.put, List.setIfInBounds_toArray, List.set_cons_zero, List.set_cons_succ]
    refine later_take (i := 6) (d := 26) (v := ?_) (by kernel_rfl) (by kernel_rfl) (by kernel_rfl) (by kernel_rfl) (fun _ _ _ h => h) (fun oi hoi => ?_) ?_
    rotate_left
    · simp at hoi
      subst hoi
      refine ⟨by rfl, fun w' hw' => ?_⟩
      go_simp
      all_goals rfl
    try simp only [Act.put, List.setIfInBounds_toArray, List.set_cons_zero, List.set_cons_succ]
    refine later_done (by kernel_rfl) ?_ _
    have l0 := (unhide A4).cell 0
    simp only [List.getElem?_toArray, List.getElem?_cons_zero] at l0
    go_wp2_with fail
    clear l0
    refine wp_region_later (by kernel_rfl) ?_
    refine later_take (i := 0) (d := 36) (v := ?_) (by kernel_rfl) (by kernel_rfl) (by kernel_rfl) (by kernel_rfl) (fun _ _ _ h => h) (fun oi hoi => ?_) ?_
    rotate_left
    · simp at hoi
      subst hoi
      refine ⟨by rfl, fun w' hw' => ?_⟩
      have hx := Blk.below (w := w4.drew) (unhide A4) hw'
      have x0 := hx.cell 0
      have x1 := hx.cell 1
      have x2 := hx.cell 2
      have x3 := hx.cell 3
      have x4 := hx.cell 4
      have x5 := hx.cell 5
      have x6 := hx.cell 6
      simp only [List.getElem?_toArray, List.getElem?_cons_succ, List.getElem?_cons_zero] at x0 x1 x2 x3 x4 x5 x6
      go_simp
      all_goals rfl
    try simp only [Act.put, List.setIfInBounds_toArray, List.set_cons_zero, List.set_cons_succ]
    refine later_one (i := 1) (by kernel_rfl) (fun oi K hoi hK => ?_)
    simp at hoi
    subst hoi
    refine ⟨by rfl, ?_⟩
    go_simp
    refine (iMemOk_in (k : Int) 0 _ _ KS OW t ⟨#[]⟩ _ (SRow.below (w := w4) (unhide G4) (Below.refl _ _).drew) (MRow.below (w := w4) (unhide H4) (Below.refl _ _).drew) (unhide HKM) (unhide HOM) HT.out (Nat.zero_le _)).mono ?_
    rw [HOK.out]
    rintro e w5 ⟨rfl, hb⟩
    go_simp
    refine hK.out _ _ hb ?_
    clear hK
    clear H4
    replace A4 := hide (Blk.below (w := w4.drew) (unhide A4) hb)
    replace G4 := hide (SRow.below (w := w4.drew) (unhide G4) hb)
    replace HB4 := hide (HB4.out.drew.trans (hb.mono HB4.out.size))
    try replace V := hide (IRow.below (w := w4.drew) (unhide V) hb)
    try replace UU := hide (IRow.below (w := w4.drew) (unhide UU) hb)
    clear hb
    try simp only [Act.put, List.setIfInBounds_toArray, List.set_cons_zero, List.set_cons_succ]
    refine later_take (i := 2) (d := 38) (v := ?_) (by kernel_rfl) (by kernel_rfl) (by kernel_rfl) (by kernel_rfl) (fun _ _ _ h => h) (fun oi hoi => ?_) ?_
    rotate_left
    · simp at hoi
      subst hoi
      refine ⟨by rfl, fun w' hw' => ?_⟩
      go_simp
      all_goals rfl
    try simp only [Act.put, List.setIfInBounds_toArray, List.set_cons_zero, List.set_cons_succ]
    refine later_take (i := 3) (d := 39) (v := ?_) (by kernel_rfl) (by kernel_rfl) (by kernel_rfl) (by kernel_rfl) (fun _ _ _ h => h) (fun oi hoi => ?_) ?_
    rotate_left
    · simp at hoi
      subst hoi
      refine ⟨by rfl, fun w' hw' => ?_⟩
      go_simp
      all_goals rfl
    try simp only [Act.put, List.setIfInBounds_toArray, List.set_cons_zero, List.set_cons_succ]
    refine later_take (i := 4) (d := 40) (v := ?_) (by kernel_rfl) (by kernel_rfl) (by kernel_rfl) (by kernel_rfl) (fun _ _ _ h => h) (fun oi hoi => ?_) ?_
    rotate_left
    · simp at hoi
      subst hoi
      refine ⟨by rfl, fun w' hw' => ?_⟩
      have hx := Blk.below (w := _) (unhide A4) hw'
      have x1 := hx.cell 1
      simp only [List.getElem?_toArray, List.getElem?_cons_succ, List.getElem?_cons_zero] at x1
      go_simp
      all_goals rfl
    try simp only [Act.put, List.setIfInBounds_toArray, List.set_cons_zero, List.set_cons_succ]
    refine later_take (i := 5) (d := 41) (v := ?_) (by kernel_rfl) (by kernel_rfl) (by kernel_rfl) (by kernel_rfl) (fun _ _ _ h => h) (fun oi hoi => ?_) ?_
    rotate_left
    · simp at hoi
      subst hoi
      refine ⟨by rfl, fun w' hw' => ?_⟩
      go_simp
      all_goals rfl
    try simp only [Act.put, List.setIfInBounds_toArray, List.set_cons_zero, List.set_cons_succ]
    refine later_take (i := 6) (d := 42) (v := ?_) (by kernel_rfl) (by kernel_rfl) (by kernel_rfl) (by kernel_rfl) (fun _ _ _ h => h) (fun oi hoi => ?_) ?_
    rotate_left
    · simp at hoi
      subst hoi
      refine ⟨by rfl, fun w' hw' => ?_⟩
      go_simp
      all_goals rfl
    try simp only [Act.put, List.setIfInBounds_toArray, List.set_cons_zero, List.set_cons_succ]
    refine later_take (i := 7) (d := 43) (v := ?_) (by kernel_rfl) (by kernel_rfl) (by kernel_rfl) (by kernel_rfl) (fun _ _ _ h => h) (fun oi hoi => ?_) ?_
    rotate_left
    · simp at hoi
      subst hoi
      refine ⟨by rfl, fun w' hw' => ?_⟩
      go_simp
      all_goals rfl
    try simp only [Act.put, List.setIfInBounds_toArray, List.set_cons_zero, List.set_cons_succ]
    refine later_take (i := 8) (d := 44) (v := ?_) (by kernel_rfl) (by kernel_rfl) (by kernel_rfl) (by kernel_rfl) (fun _ _ _ h => h) (fun oi hoi => ?_) ?_
    rotate_left
    · simp at hoi
      subst hoi
      refine ⟨by rfl, fun w' hw' => ?_⟩
      go_simp
      all_goals rfl
    try simp only [Act.put, List.setIfInBounds_toArray, List.set_cons_zero, List.set_cons_succ]
    refine later_take (i := 9) (d := 45) (v := ?_) (by kernel_rfl) (by kernel_rfl) (by kernel_rfl) (by kernel_rfl) (fun _ _ _ h => h) (fun oi hoi => ?_) ?_
    rotate_left
    · simp at hoi
      subst hoi
      refine ⟨by rfl, fun w' hw' => ?_⟩
      go_simp
      all_goals rfl
    try simp only [Act.put, List.setIfInBounds_toArray, List.set_cons_zero, List.set_cons_succ]
    refine later_take (i := 10) (d := 46) (v := ?_) (by kernel_rfl) (by kernel_rfl) (by kernel_rfl) (by kernel_rfl) (fun _ _ _ h => h) (fun oi hoi => ?_) ?_
    rotate_left
    · simp at hoi
      subst hoi
      refine ⟨by rfl, fun w' hw' => ?_⟩
      have hx := Blk.below (w := _) (unhide A4) hw'
      have x2 := hx.cell 2
      simp only [List.getElem?_toArray, List.getElem?_cons_succ, List.getElem?_cons_zero] at x2
      go_simp
      all_goals rfl
    try simp only [Act.put, List.setIfInBounds_toArray, List.set_cons_zero, List.set_cons_succ]
    refine later_take (i := 12) (d := 48) (v := ?_) (by kernel_rfl) (by kernel_rfl) (by kernel_rfl) (by kernel_rfl) (fun _ _ _ h => h) (fun oi hoi => ?_) ?_
    rotate_left
    · simp at hoi
      subst hoi
      refine ⟨by rfl, fun w' hw' => ?_⟩
      go_simp
      all_goals rfl
    try simp only [Act.put, List.setIfInBounds_toArray, List.set_cons_zero, List.set_cons_succ]
    refine later_two (i := 11) (j := 13) (by kernel_rfl) (fun oi K hoi hK => ?_) (fun oi K hoi hK => ?_)
    · simp at hoi
      subst hoi
      refine ⟨by rfl, ?_⟩
      go_simp
      refine (iTreIn_any _ KS _ (unhide G4) (unhide HKM)).mono ?_
      rw [HIN.out]
      rintro e w6 ⟨u6, rfl, ho6, hb⟩
      go_simp
      refine hK.out _ _ hb ?_
      clear hK
      have V := hide ho6.irow
      clear ho6
      replace A4 := hide (Blk.below (w := _) (unhide A4) hb)
      replace G4 := hide (SRow.below (w := _) (unhide G4) hb)
      replace HB4 := hide (HB4.out.trans (hb.mono HB4.out.size))
      try replace UU := hide (IRow.below (w := _) (unhide UU) hb)
      clear hb
      try simp only [Act.put, List.setIfInBounds_toArray, List.set_cons_zero, List.set_cons_succ]
      refine later_one (i := 13) (by kernel_rfl) (fun oi K hoi hK => ?_)
      simp at hoi
      subst hoi
      refine ⟨by rfl, ?_⟩
      go_simp
      have hb : Below w6.heap.size w6 (w6.alloc (.cells #[.int .i64 (k : Int)] 3)) := (Below.refl _ _).alloc (Nat.le_refl _) _
      refine hK.out _ _ hb ?_
      clear hK
      have UU : Hid (IRow (w6.alloc (.cells #[.int .i64 (k : Int)] 3)) (.slice (some ⟨w6.heap.size, 0, none⟩) 1 1) [(k : Int)]) := one_row _ _ _
      replace A4 := hide (Blk.below (w := _) (unhide A4) hb)
      replace G4 := hide (SRow.below (w := _) (unhide G4) hb)
      replace HB4 := hide (HB4.out.trans (hb.mono HB4.out.size))
      try replace V := hide (IRow.below (w := _) (unhide V) hb)
      clear hb
      try simp only [Act.put, List.setIfInBounds_toArray, List.set_cons_zero, List.set_cons_succ]
      refine later_one (i := 14) (by kernel_rfl) (fun oi K hoi hK => ?_)
      simp at hoi
      subst hoi
      refine ⟨by rfl, ?_⟩
      go_simp
      refine (keInts_any _ _ [(k : Int)] [(k : Int)] _ (unhide V) (unhide UU)).mono ?_
      rw [show decide ([(k : Int)] = [(k : Int)]) = true by simp]
      rintro e w8 ⟨rfl, hb⟩
      go_simp
      refine hK.out _ _ hb ?_
      clear hK
      clear V UU
      replace A4 := hide (Blk.below (w := _) (unhide A4) hb)
      replace G4 := hide (SRow.below (w := _) (unhide G4) hb)
      replace HB4 := hide (HB4.out.trans (hb.mono HB4.out.size))
      try replace V := hide (IRow.below (w := _) (unhide V) hb)
      try replace UU := hide (IRow.below (w := _) (unhide UU) hb)
      clear hb
      try simp only [Act.put, List.setIfInBounds_toArray, List.set_cons_zero, List.set_cons_succ]
      refine later_take (i := 15) (d := 51) (v := ?_) (by kernel_rfl) (by kernel_rfl) (by kernel_rfl) (by kernel_rfl) (fun _ _ _ h => h) (fun oi hoi => ?_) ?_
      rotate_left
      · simp at hoi
        subst hoi
        refine ⟨by rfl, fun w' hw' => ?_⟩
        go_simp
        all_goals rfl
      try simp only [Act.put, List.setIfInBounds_toArray, List.set_cons_zero, List.set_cons_succ]
      refine later_take (i := 16) (d := 52) (v := ?_) (by kernel_rfl) (by kernel_rfl) (by kernel_rfl) (by kernel_rfl) (fun _ _ _ h => h) (fun oi hoi => ?_) ?_
      rotate_left
      · simp at hoi
        subst hoi
        refine ⟨by rfl, fun w' hw' => ?_⟩
        go_simp
        all_goals rfl
      try simp only [Act.put, List.setIfInBounds_toArray, List.set_cons_zero, List.set_cons_succ]
      refine later_take (i := 17) (d := 53) (v := ?_) (by kernel_rfl) (by kernel_rfl) (by kernel_rfl) (by kernel_rfl) (fun _ _ _ h => h) (fun oi hoi => ?_) ?_
      rotate_left
      · simp at hoi
        subst hoi
        refine ⟨by rfl, fun w' hw' => ?_⟩
        go_simp
        all_goals rfl
      try simp only [Act.put, List.setIfInBounds_toArray, List.set_cons_zero, List.set_cons_succ]
      refine later_take (i := 18) (d := 54) (v := ?_) (by kernel_rfl) (by kernel_rfl) (by kernel_rfl) (by kernel_rfl) (fun _ _ _ h => h) (fun oi hoi => ?_) ?_
      rotate_left
      · simp at hoi
        subst hoi
        refine ⟨by rfl, fun w' hw' => ?_⟩
        have hx := Blk.below (w := _) (unhide A4) hw'
        have x4 := hx.cell 4
        simp only [List.getElem?_toArray, List.getElem?_cons_succ, List.getElem?_cons_zero] at x4
        go_simp
        all_goals rfl
      try simp only [Act.put, List.setIfInBounds_toArray, List.set_cons_zero, List.set_cons_succ]
      refine later_take (i := 19) (d := 55) (v := ?_) (by kernel_rfl) (by kernel_rfl) (by kernel_rfl) (by kernel_rfl) (fun _ _ _ h => h) (fun oi hoi => ?_) ?_
      rotate_left
      · simp at hoi
        subst hoi
        refine ⟨by rfl, fun w' hw' => ?_⟩
        go_simp
        all_goals rfl
      try simp only [Act.put, List.setIfInBounds_toArray, List.set_cons_zero, List.set_cons_succ]
      refine later_take (i := 20) (d := 56) (v := ?_) (by kernel_rfl) (by kernel_rfl) (by kernel_rfl) (by kernel_rfl) (fun _ _ _ h => h) (fun oi hoi => ?_) ?_
      rotate_left
      · simp at hoi
        subst hoi
        refine ⟨by rfl, fun w' hw' => ?_⟩
        go_simp
        all_goals rfl
      try simp only [Act.put, List.setIfInBounds_toArray, List.set_cons_zero, List.set_cons_succ]
      refine later_take (i := 21) (d := 57) (v := ?_) (by kernel_rfl) (by kernel_rfl) (by kernel_rfl) (by kernel_rfl) (fun _ _ _ h => h) (fun oi hoi => ?_) ?_
      rotate_left
      · simp at hoi
        subst hoi
        refine ⟨by rfl, fun w' hw' => ?_⟩
        go_simp
        all_goals rfl
      try simp only [Act.put, List.setIfInBounds_toArray, List.set_cons_zero, List.set_cons_succ]
      refine later_take (i := 22) (d := 58) (v := ?_) (by kernel_rfl) (by kernel_rfl) (by kernel_rfl) (by kernel_rfl) (fun _ _ _ h => h) (fun oi hoi => ?_) ?_
      rotate_left
      · simp at hoi
        subst hoi
        refine ⟨by rfl, fun w' hw' => ?_⟩
        go_simp
        all_goals rfl
      try simp only [Act.put, List.setIfInBounds_toArray, List.set_cons_zero, List.set_cons_succ]
      refine later_take (i := 23) (d := 59) (v := ?_) (by kernel_rfl) (by kernel_rfl) (by kernel_rfl) (by kernel_rfl) (fun _ _ _ h => h) (fun oi hoi => ?_) ?_
      rotate_left
      · simp at hoi
        subst hoi
        refine ⟨by rfl, fun w' hw' => ?_⟩
        have hx := Blk.below (w := _) (unhide A4) hw'
        have x6 := hx.cell 6
        simp only [List.getElem?_toArray, List.getElem?_cons_succ, List.getElem?_cons_zero] at x6
        go_simp
        all_goals rfl
      try simp only [Act.put, List.setIfInBounds_toArray, List.set_cons_zero, List.set_cons_succ]
      refine later_take (i := 24) (d := 60) (v := ?_) (by kernel_rfl) (by kernel_rfl) (by kernel_rfl) (by kernel_rfl) (fun _ _ _ h => h) (fun oi hoi => ?_) ?_
      rotate_left
      · simp at hoi
        subst hoi
        refine ⟨by rfl, fun w' hw' => ?_⟩
        go_simp
        all_goals rfl
      try simp only [Act.put, List.setIfInBounds_toArray, List.set_cons_zero, List.set_cons_succ]
      refine later_take (i := 25) (d := 61) (v := ?_) (by kernel_rfl) (by kernel_rfl) (by kernel_rfl) (by kernel_rfl) (fun _ _ _ h => h) (fun oi hoi => ?_) ?_
      rotate_left
      · simp at hoi
        subst hoi
        refine ⟨by rfl, fun w' hw' => ?_⟩
        go_simp
        all_goals rfl
      try simp only [Act.put, List.setIfInBounds_toArray, List.set_cons_zero, List.set_cons_succ]
      refine later_take (i := 26) (d := 62) (v := ?_) (by kernel_rfl) (by kernel_rfl) (by kernel_rfl) (by kernel_rfl) (fun _ _ _ h => h) (fun oi hoi => ?_) ?_
      rotate_left
      · simp at hoi
        subst hoi
        refine ⟨by rfl, fun w' hw' => ?_⟩
        go_simp
        all_goals rfl
      try simp only [Act.put, List.setIfInBounds_toArray, List.set_cons_zero, List.set_cons_succ]
      refine later_take (i := 27) (d := 63) (v := ?_) (by kernel_rfl) (by kernel_rfl) (by kernel_rfl) (by kernel_rfl) (fun _ _ _ h => h) (fun oi hoi => ?_) ?_
      rotate_left
      · simp at hoi
        subst hoi
        refine ⟨by rfl, fun w' hw' => ?_⟩
        go_simp
        all_goals rfl
      try simp only [Act.put, List.setIfInBounds_toArray, List.set_cons_zero, List.set_cons_succ]
      refine later_take (i := 28) (d := 64) (v := ?_) (by kernel_rfl) (by kernel_rfl) (by kernel_rfl) (by kernel_rfl) (fun _ _ _ h => h) (fun oi hoi => ?_) ?_
      rotate_left
      · simp at hoi
        subst hoi
        refine ⟨by rfl, fun w' hw' => ?_⟩
        have hx := Blk.below (w := _) (unhide A4) hw'
        have x5 := hx.cell 5
        simp only [List.getElem?_toArray, List.getElem?_cons_succ, List.getElem?_cons_zero] at x5
        go_simp
        all_goals rfl
      try simp only [Act.put, List.setIfInBounds_toArray, List.set_cons_zero, List.set_cons_succ]
      refine later_take (i := 29) (d := 65) (v := ?_) (by kernel_rfl) (by kernel_rfl) (by kernel_rfl) (by kernel_rfl) (fun _ _ _ h => h) (fun oi hoi => ?_) ?_
      rotate_left
      · simp at hoi
        subst hoi
        refine ⟨by rfl, fun w' hw' => ?_⟩
        go_simp
        all_goals rfl
      try simp only [Act.put, List.setIfInBounds_toArray, List.set_cons_zero, List.set_cons_succ]
      refine later_take (i := 30) (d := 66) (v := ?_) (by kernel_rfl) (by kernel_rfl) (by kernel_rfl) (by kernel_rfl) (fun _ _ _ h => h) (fun oi hoi => ?_) ?_
      rotate_left
      · simp at hoi
        subst hoi
        refine ⟨by rfl, fun w' hw' => ?_⟩
        go_simp
        all_goals rfl
      try simp only [Act.put, List.setIfInBounds_toArray, List.set_cons_zero, List.set_cons_succ]
      refine later_take (i := 31) (d := 67) (v := ?_) (by kernel_rfl) (by kernel_rfl) (by kernel_rfl) (by kernel_rfl) (fun _ _ _ h => h) (fun oi hoi => ?_) ?_
      rotate_left
      · simp at hoi
        subst hoi
        refine ⟨by rfl, fun w' hw' => ?_⟩
        go_simp
        all_goals rfl
      try simp only [Act.put, List.setIfInBounds_toArray, List.set_cons_zero, List.set_cons_succ]
      refine later_take (i := 32) (d := 68) (v := ?_) (by kernel_rfl) (by kernel_rfl) (by kernel_rfl) (by kernel_rfl) (fun _ _ _ h => h) (fun oi hoi => ?_) ?_
      rotate_left
      · simp at hoi
        subst hoi
        refine ⟨by rfl, fun w' hw' => ?_⟩
        go_simp
        all_goals rfl
      try simp only [Act.put, List.setIfInBounds_toArray, List.set_cons_zero, List.set_cons_succ]
      refine later_take (i := 33) (d := 69) (v := ?_) (by kernel_rfl) (by kernel_rfl) (by kernel_rfl) (by kernel_rfl) (fun _ _ _ h => h) (fun oi hoi => ?_) ?_
      rotate_left
      · simp at hoi
        subst hoi
        refine ⟨by rfl, fun w' hw' => ?_⟩
        go_simp
        all_goals rfl
      try simp only [Act.put, List.setIfInBounds_toArray, List.set_cons_zero, List.set_cons_succ]
      refine later_take (i := 34) (d := 70) (v := ?_) (by kernel_rfl) (by kernel_rfl) (by kernel_rfl) (by kernel_rfl) (fun _ _ _ h => h) (fun oi hoi => ?_) ?_
      rotate_left
      · simp at hoi
        subst hoi
        refine ⟨by rfl, fun w' hw' => ?_⟩
        go_simp
        all_goals rfl
      try simp only [Act.put, List.setIfInBounds_toArray, List.set_cons_zero, List.set_cons_succ]
      refine later_take (i := 35) (d := 71) (v := ?_) (by kernel_rfl) (by kernel_rfl) (by kernel_rfl) (by kernel_rfl) (fun _ _ _ h => h) (fun oi hoi => ?_) ?_
      rotate_left
      · simp at hoi
        subst hoi
        refine ⟨by rfl, fun w' hw' => ?_⟩
        have hx := Blk.below (w := _) (unhide A4) hw'
        have x2 := hx.cell 2
        simp only [List.getElem?_toArray, List.getElem?_cons_succ, List.getElem?_cons_zero] at x2
        go_simp
        all_goals rfl
      try simp only [Act.put, List.setIfInBounds_toArray, List.set_cons_zero, List.set_cons_succ]
      refine later_take (i := 36) (d := 72) (v := ?_) (by kernel_rfl) (by kernel_rfl) (by kernel_rfl) (by kernel_rfl) (fun _ _ _ h => h) (fun oi hoi => ?_) ?_
      rotate_left
      · simp at hoi
        subst hoi
        refine ⟨by rfl, fun w' hw' => ?_⟩
        go_simp
        all_goals rfl
      try simp only [Act.put, List.setIfInBounds_toArray, List.set_cons_zero, List.set_cons_succ]
      refine later_take (i := 40) (d := 76) (v := ?_) (by kernel_rfl) (by kernel_rfl) (by kernel_rfl) (by kernel_rfl) (fun _ _ _ h => h) (fun oi hoi => ?_) ?_
      rotate_left
      · simp at hoi
        subst hoi
        refine ⟨by rfl, fun w' hw' => ?_⟩
        go_simp
        all_goals rfl
      try simp only [Act.put, List.setIfInBounds_toArray, List.set_cons_zero, List.set_cons_succ]
      refine later_one (i := 37) (by kernel_rfl) (fun oi K hoi hK => ?_)
      simp at hoi
      subst hoi
      refine ⟨by rfl, ?_⟩
      go_simp
      refine (iTreLeaf_any (k : Int) _).mono ?_
      rw [HLF.out]
      rintro e wz ⟨rfl, rfl⟩
      go_simp
      refine hK.out _ _ (Below.refl _ _) ?_
      clear hK
      try simp only [Act.put, List.setIfInBounds_toArray, List.set_cons_zero, List.set_cons_succ]
      refine later_take (i := 38) (d := 74) (v := ?_) (by kernel_rfl) (by kernel_rfl) (by kernel_rfl) (by kernel_rfl) (fun _ _ _ h => h) (fun oi hoi => ?_) ?_
      rotate_left
      · simp at hoi
        subst hoi
        refine ⟨by rfl, fun w' hw' => ?_⟩
        go_simp
        all_goals rfl
      try simp only [Act.put, List.setIfInBounds_toArray, List.set_cons_zero, List.set_cons_succ]
      refine later_take (i := 39) (d := 75) (v := ?_) (by kernel_rfl) (by kernel_rfl) (by kernel_rfl) (by kernel_rfl) (fun _ _ _ h => h) (fun oi hoi => ?_) ?_
      rotate_left
      · simp at hoi
        subst hoi
        refine ⟨by rfl, fun w' hw' => ?_⟩
        have hx := ((unhide G4).below hw').form
        obtain ⟨ax, cx, qx, _, _, qy⟩ := hx
        rw [HKL.out] at qx qy
        simp only [Value.slice.injEq] at qx
        obtain ⟨rfl, _, rfl⟩ := qx
        obtain ⟨a', ha', hcx⟩ := qy lf (by omega)
        cases ha'
        rw [HKEY.out, Addr.add_lit, Nat.zero_add] at hcx
        go_simp
        all_goals rfl
      try simp only [Act.put, List.setIfInBounds_toArray, List.set_cons_zero, List.set_cons_succ]
      refine later_one (i := 41) (by kernel_rfl) (fun oi K hoi hK => ?_)
      simp at hoi
      subst hoi
      refine ⟨by rfl, ?_⟩
      go_simp
      refine (iMakKey_any s _ HS.out).mono ?_
      rintro e w9 ⟨rfl, hb⟩
      go_simp
      refine hK.out _ _ hb ?_
      clear hK
      replace A4 := hide (Blk.below (w := _) (unhide A4) hb)
      replace G4 := hide (SRow.below (w := _) (unhide G4) hb)
      replace HB4 := hide (HB4.out.trans (hb.mono HB4.out.size))
      try replace V := hide (IRow.below (w := _) (unhide V) hb)
      try replace UU := hide (IRow.below (w := _) (unhide UU) hb)
      clear hb
      try simp only [Act.put, List.setIfInBounds_toArray, List.set_cons_zero, List.set_cons_succ]
      refine later_take (i := 42) (d := 78) (v := ?_) (by kernel_rfl) (by kernel_rfl) (by kernel_rfl) (by kernel_rfl) (fun _ _ _ h => h) (fun oi hoi => ?_) ?_
      rotate_left
      · simp at hoi
        subst hoi
        refine ⟨by rfl, fun w' hw' => ?_⟩
        go_simp
        all_goals rfl
      try simp only [Act.put, List.setIfInBounds_toArray, List.set_cons_zero, List.set_cons_succ]
      refine later_take (i := 43) (d := 79) (v := ?_) (by kernel_rfl) (by kernel_rfl) (by kernel_rfl) (by kernel_rfl) (fun _ _ _ h => h) (fun oi hoi => ?_) ?_
      rotate_left
      · simp at hoi
        subst hoi
        refine ⟨by rfl, fun w' hw' => ?_⟩
        go_simp
        all_goals rfl
      try simp only [Act.put, List.setIfInBounds_toArray, List.set_cons_zero, List.set_cons_succ]
      refine later_take (i := 44) (d := 2) (v := ?_) (by kernel_rfl) (by kernel_rfl) (by kernel_rfl) (by kernel_rfl) (fun _ _ _ h => h) (fun oi hoi => ?_) ?_
      rotate_left
      · simp at hoi
        subst hoi
        refine ⟨by rfl, fun w' hw' => ?_⟩
        go_simp
        all_goals rfl
      try simp only [Act.put, List.setIfInBounds_toArray, List.set_cons_zero, List.set_cons_succ]
      refine later_done (by kernel_rfl) ?_ _
      go_wp2_with fail
      go_ret
      exact ⟨rfl, unhide HB4⟩
    · simp at hoi
      subst hoi
      refine ⟨by rfl, ?_⟩
      go_simp
      have hb : Below w5.heap.size w5 (w5.alloc (.cells #[.int .i64 (k : Int)] 3)) := (Below.refl _ _).alloc (Nat.le_refl _) _
      refine hK.out _ _ hb ?_
      clear hK
      have UU : Hid (IRow (w5.alloc (.cells #[.int .i64 (k : Int)] 3)) (.slice (some ⟨w5.heap.size, 0, none⟩) 1 1) [(k : Int)]) := one_row _ _ _
      replace A4 := hide (Blk.below (w := _) (unhide A4) hb)
      replace G4 := hide (SRow.below (w := _) (unhide G4) hb)
      replace HB4 := hide (HB4.out.trans (hb.mono HB4.out.size))
      try replace V := hide (IRow.below (w := _) (unhide V) hb)
      clear hb
      try simp only [Act.put, List.setIfInBounds_toArray, List.set_cons_zero, List.set_cons_succ]
      refine later_one (i := 11) (by kernel_rfl) (fun oi K hoi hK => ?_)
      simp at hoi
      subst hoi
      refine ⟨by rfl, ?_⟩
      go_simp
      refine (iTreIn_any _ KS _ (unhide G4) (unhide HKM)).mono ?_
      rw [HIN.out]
      rintro e w6 ⟨u6, rfl, ho6, hb⟩
      go_simp
      refine hK.out _ _ hb ?_
      clear hK
      have V := hide ho6.irow
      clear ho6
      replace A4 := hide (Blk.below (w := _) (unhide A4) hb)
      replace G4 := hide (SRow.below (w := _) (unhide G4) hb)
      replace HB4 := hide (HB4.out.trans (hb.mono HB4.out.size))
      try replace UU := hide (IRow.below (w := _) (unhide UU) hb)
      clear hb
      try simp only [Act.put, List.setIfInBounds_toArray, List.set_cons_zero, List.set_cons_succ]
      refine later_one (i := 14) (by kernel_rfl) (fun oi K hoi hK => ?_)
      simp at hoi
      subst hoi
      refine ⟨by rfl, ?_⟩
      go_simp
      refine (keInts_any _ _ [(k : Int)] [(k : Int)] _ (unhide V) (unhide UU)).mono ?_
      rw [show decide ([(k : Int)] = [(k : Int)]) = true by simp]
      rintro e w8 ⟨rfl, hb⟩
      go_simp
      refine hK.out _ _ hb ?_
      clear hK
      clear V UU
      replace A4 := hide (Blk.below (w := _) (unhide A4) hb)
      replace G4 := hide (SRow.below (w := _) (unhide G4) hb)
      replace HB4 := hide (HB4.out.trans (hb.mono HB4.out.size))
      try replace V := hide (IRow.below (w := _) (unhide V) hb)
      try replace UU := hide (IRow.below (w := _) (unhide UU) hb)
      clear hb
      try simp only [Act.put, List.setIfInBounds_toArray, List.set_cons_zero, List.set_cons_succ]
      refine later_take (i := 15) (d := 51) (v := ?_) (by kernel_rfl) (by kernel_rfl) (by kernel_rfl) (by kernel_rfl) (fun _ _ _ h => h) (fun oi hoi => ?_) ?_
      rotate_left
      · simp at hoi
        subst hoi
        refine ⟨by rfl, fun w' hw' => ?_⟩
        go_simp
        all_goals rfl
      try simp only [Act.put, List.setIfInBounds_toArray, List.set_cons_zero, List.set_cons_succ]
      refine later_take (i := 16) (d := 52) (v := ?_) (by kernel_rfl) (by kernel_rfl) (by kernel_rfl) (by kernel_rfl) (fun _ _ _ h => h) (fun oi hoi => ?_) ?_
      rotate_left
      · simp at hoi
        subst hoi
        refine ⟨by rfl, fun w' hw' => ?_⟩
        go_simp
        all_goals rfl
      try simp only [Act.put, List.setIfInBounds_toArray, List.set_cons_zero, List.set_cons_succ]
      refine later_take (i := 17) (d := 53) (v := ?_) (by kernel_rfl) (by kernel_rfl) (by kernel_rfl) (by kernel_rfl) (fun _ _ _ h => h) (fun oi hoi => ?_) ?_
      rotate_left
      · simp at hoi
        subst hoi
        refine ⟨by rfl, fun w' hw' => ?_⟩
        go_simp
        all_goals rfl
      try simp only [Act.put, List.setIfInBounds_toArray, List.set_cons_zero, List.set_cons_succ]
      refine later_take (i := 18) (d := 54) (v := ?_) (by kernel_rfl) (by kernel_rfl) (by kernel_rfl) (by kernel_rfl) (fun _ _ _ h => h) (fun oi hoi => ?_) ?_
      rotate_left
      · simp at hoi
        subst hoi
        refine ⟨by rfl, fun w' hw' => ?_⟩
        have hx := Blk.below (w := _) (unhide A4) hw'
        have x4 := hx.cell 4
        simp only [List.getElem?_toArray, List.getElem?_cons_succ, List.getElem?_cons_zero] at x4
        go_simp
        all_goals rfl
      try simp only [Act.put, List.setIfInBounds_toArray, List.set_cons_zero, List.set_cons_succ]
      refine later_take (i := 19) (d := 55) (v := ?_) (by kernel_rfl) (by kernel_rfl) (by kernel_rfl) (by kernel_rfl) (fun _ _ _ h => h) (fun oi hoi => ?_) ?_
      rotate_left
      · simp at hoi
        subst hoi
        refine ⟨by rfl, fun w' hw' => ?_⟩
        go_simp
        all_goals rfl
      try simp only [Act.put, List.setIfInBounds_toArray, List.set_cons_zero, List.set_cons_succ]
      refine later_take (i := 20) (d := 56) (v := ?_) (by kernel_rfl) (by kernel_rfl) (by kernel_rfl) (by kernel_rfl) (fun _ _ _ h => h) (fun oi hoi => ?_) ?_
      rotate_left
      · simp at hoi
        subst hoi
        refine ⟨by rfl, fun w' hw' => ?_⟩
        go_simp
        all_goals rfl
      try simp only [Act.put, List.setIfInBounds_toArray, List.set_cons_zero, List.set_cons_succ]
      refine later_take (i := 21) (d := 57) (v := ?_) (by kernel_rfl) (by kernel_rfl) (by kernel_rfl) (by kernel_rfl) (fun _ _ _ h => h) (fun oi hoi => ?_) ?_
      rotate_left
      · simp at hoi
        subst hoi
        refine ⟨by rfl, fun w' hw' => ?_⟩
        go_simp
        all_goals rfl
      try simp only [Act.put, List.setIfInBounds_toArray, List.set_cons_zero, List.set_cons_succ]
      refine later_take (i := 22) (d := 58) (v := ?_) (by kernel_rfl) (by kernel_rfl) (by kernel_rfl) (by kernel_rfl) (fun _ _ _ h => h) (fun oi hoi => ?_) ?_
      rotate_left
      · simp at hoi
        subst hoi
        refine ⟨by rfl, fun w' hw' => ?_⟩
        go_simp
        all_goals rfl
      try simp only [Act.put, List.setIfInBounds_toArray, List.set_cons_zero, List.set_cons_succ]
      refine later_take (i := 23) (d := 59) (v := ?_) (by kernel_rfl) (by kernel_rfl) (by kernel_rfl) (by kernel_rfl) (fun _ _ _ h => h) (fun oi hoi => ?_) ?_
      rotate_left
      · simp at hoi
        subst hoi
        refine ⟨by rfl, fun w' hw' => ?_⟩
        have hx := Blk.below (w := _) (unhide A4) hw'
        have x6 := hx.cell 6
        simp only [List.getElem?_toArray, List.getElem?_cons_succ, List.getElem?_cons_zero] at x6
        go_simp
        all_goals rfl
      try simp only [Act.put, List.setIfInBounds_toArray, List.set_cons_zero, List.set_cons_succ]
      refine later_take (i := 24) (d := 60) (v := ?_) (by kernel_rfl) (by kernel_rfl) (by kernel_rfl) (by kernel_rfl) (fun _ _ _ h => h) (fun oi hoi => ?_) ?_
      rotate_left
      · simp at hoi
        subst hoi
        refine ⟨by rfl, fun w' hw' => ?_⟩
        go_simp
        all_goals rfl
      try simp only [Act.put, List.setIfInBounds_toArray, List.set_cons_zero, List.set_cons_succ]
      refine later_take (i := 25) (d := 61) (v := ?_) (by kernel_rfl) (by kernel_rfl) (by kernel_rfl) (by kernel_rfl) (fun _ _ _ h => h) (fun oi hoi => ?_) ?_
      rotate_left
      · simp at hoi
        subst hoi
        refine ⟨by rfl, fun w' hw' => ?_⟩
        go_simp
        all_goals rfl
      try simp only [Act.put, List.setIfInBounds_toArray, List.set_cons_zero, List.set_cons_succ]
      refine later_take (i := 26) (d := 62) (v := ?_) (by kernel_rfl) (by kernel_rfl) (by kernel_rfl) (by kernel_rfl) (fun _ _ _ h => h) (fun oi hoi => ?_) ?_
      rotate_left
      · simp at hoi
        subst hoi
        refine ⟨by rfl, fun w' hw' => ?_⟩
        go_simp
        all_goals rfl
      try simp only [Act.put, List.setIfInBounds_toArray, List.set_cons_zero, List.set_cons_succ]
      refine later_take (i := 27) (d := 63) (v := ?_) (by kernel_rfl) (by kernel_rfl) (by kernel_rfl) (by kernel_rfl) (fun _ _ _ h => h) (fun oi hoi => ?_) ?_
      rotate_left
      · simp at hoi
        subst hoi
        refine ⟨by rfl, fun w' hw' => ?_⟩
        go_simp
        all_goals rfl
      try simp only [Act.put, List.setIfInBounds_toArray, List.set_cons_zero, List.set_cons_succ]
      refine later_take (i := 28) (d := 64) (v := ?_) (by kernel_rfl) (by kernel_rfl) (by kernel_rfl) (by kernel_rfl) (fun _ _ _ h => h) (fun oi hoi => ?_) ?_
      rotate_left
      · simp at hoi
        subst hoi
        refine ⟨by rfl, fun w' hw' => ?_⟩
        have hx := Blk.below (w := _) (unhide A4) hw'
        have x5 := hx.cell 5
        simp only [List.getElem?_toArray, List.getElem?_cons_succ, List.getElem?_cons_zero] at x5
        go_simp
        all_goals rfl
      try simp only [Act.put, List.setIfInBounds_toArray, List.set_cons_zero, List.set_cons_succ]
      refine later_take (i := 29) (d := 65) (v := ?_) (by kernel_rfl) (by kernel_rfl) (by kernel_rfl) (by kernel_rfl) (fun _ _ _ h => h) (fun oi hoi => ?_) ?_
      rotate_left
      · simp at hoi
        subst hoi
        refine ⟨by rfl, fun w' hw' => ?_⟩
        go_simp
        all_goals rfl
      try simp only [Act.put, List.setIfInBounds_toArray, List.set_cons_zero, List.set_cons_succ]
      refine later_take (i := 30) (d := 66) (v := ?_) (by kernel_rfl) (by kernel_rfl) (by kernel_rfl) (by kernel_rfl) (fun _ _ _ h => h) (fun oi hoi => ?_) ?_
      rotate_left
      · simp at hoi
        subst hoi
        refine ⟨by rfl, fun w' hw' => ?_⟩
        go_simp
        all_goals rfl
      try simp only [Act.put, List.setIfInBounds_toArray, List.set_cons_zero, List.set_cons_succ]
      refine later_take (i := 31) (d := 67) (v := ?_) (by kernel_rfl) (by kernel_rfl) (by kernel_rfl) (by kernel_rfl) (fun _ _ _ h => h) (fun oi hoi => ?_) ?_
      rotate_left
      · simp at hoi
        subst hoi
        refine ⟨by rfl, fun w' hw' => ?_⟩
        go_simp
        all_goals rfl
      try simp only [Act.put, List.setIfInBounds_toArray, List.set_cons_zero, List.set_cons_succ]
      refine later_take (i := 32) (d := 68) (v := ?_) (by kernel_rfl) (by kernel_rfl) (by kernel_rfl) (by kernel_rfl) (fun _ _ _ h => h) (fun oi hoi => ?_) ?_
      rotate_left
      · simp at hoi
        subst hoi
        refine ⟨by rfl, fun w' hw' => ?_⟩
        go_simp
        all_goals rfl
      try simp only [Act.put, List.setIfInBounds_toArray, List.set_cons_zero, List.set_cons_succ]
      refine later_take (i := 33) (d := 69) (v := ?_) (by kernel_rfl) (by kernel_rfl) (by kernel_rfl) (by kernel_rfl) (fun _ _ _ h => h) (fun oi hoi => ?_) ?_
      rotate_left
      · simp at hoi
        subst hoi
        refine ⟨by rfl, fun w' hw' => ?_⟩
        go_simp
        all_goals rfl
      try simp only [Act.put, List.setIfInBounds_toArray, List.set_cons_zero, List.set_cons_succ]
      refine later_take (i := 34) (d := 70) (v := ?_) (by kernel_rfl) (by kernel_rfl) (by kernel_rfl) (by kernel_rfl) (fun _ _ _ h => h) (fun oi hoi => ?_) ?_
      rotate_left
      · simp at hoi
        subst hoi
        refine ⟨by rfl, fun w' hw' => ?_⟩
        go_simp
        all_goals rfl
      try simp only [Act.put, List.setIfInBounds_toArray, List.set_cons_zero, List.set_cons_succ]
      refine later_take (i := 35) (d := 71) (v := ?_) (by kernel_rfl) (by kernel_rfl) (by kernel_rfl) (by kernel_rfl) (fun _ _ _ h => h) (fun oi hoi => ?_) ?_
      rotate_left
      · simp at hoi
        subst hoi
        refine ⟨by rfl, fun w' hw' => ?_⟩
        have hx := Blk.below (w := _) (unhide A4) hw'
        have x2 := hx.cell 2
        simp only [List.getElem?_toArray, List.getElem?_cons_succ, List.getElem?_cons_zero] at x2
        go_simp
        all_goals rfl
      try simp only [Act.put, List.setIfInBounds_toArray, List.set_cons_zero, List.set_cons_succ]
      refine later_take (i := 36) (d := 72) (v := ?_) (by kernel_rfl) (by kernel_rfl) (by kernel_rfl) (by kernel_rfl) (fun _ _ _ h => h) (fun oi hoi => ?_) ?_
      rotate_left
      · simp at hoi
        subst hoi
        refine ⟨by rfl, fun w' hw' => ?_⟩
        go_simp
        all_goals rfl
      try simp only [Act.put, List.setIfInBounds_toArray, List.set_cons_zero, List.set_cons_succ]
      refine later_take (i := 40) (d := 76) (v := ?_) (by kernel_rfl) (by kernel_rfl) (by kernel_rfl) (by kernel_rfl) (fun _ _ _ h => h) (fun oi hoi => ?_) ?_
      rotate_left
      · simp at hoi
        subst hoi
        refine ⟨by rfl, fun w' hw' => ?_⟩
        go_simp
        all_goals rfl
      try simp only [Act.put, List.setIfInBounds_toArray, List.set_cons_zero, List.set_cons_succ]
      refine later_one (i := 37) (by kernel_rfl) (fun oi K hoi hK => ?_)
      simp at hoi
      subst hoi
      refine ⟨by rfl, ?_⟩
      go_simp
      refine (iTreLeaf_any (k : Int) _).mono ?_
      rw [HLF.out]
      rintro e wz ⟨rfl, rfl⟩
      go_simp
      refine hK.out _ _ (Below.refl _ _) ?_
      clear hK
      try simp only [Act.put, List.setIfInBounds_toArray, List.set_cons_zero, List.set_cons_succ]
      refine later_take (i := 38) (d := 74) (v := ?_) (by kernel_rfl) (by kernel_rfl) (by kernel_rfl) (by kernel_rfl) (fun _ _ _ h => h) (fun oi hoi => ?_) ?_
      rotate_left
      · simp at hoi
        subst hoi
        refine ⟨by rfl, fun w' hw' => ?_⟩
        go_simp
        all_goals rfl
      try simp only [Act.put, List.setIfInBounds_toArray, List.set_cons_zero, List.set_cons_succ]
      refine later_take (i := 39) (d := 75) (v := ?_) (by kernel_rfl) (by kernel_rfl) (by kernel_rfl) (by kernel_rfl) (fun _ _ _ h => h) (fun oi hoi => ?_) ?_
      rotate_left
      · simp at hoi
        subst hoi
        refine ⟨by rfl, fun w' hw' => ?_⟩
        have hx := ((unhide G4).below hw').form
        obtain ⟨ax, cx, qx, _, _, qy⟩ := hx
        rw [HKL.out] at qx qy
        simp only [Value.slice.injEq] at qx
        obtain ⟨rfl, _, rfl⟩ := qx
        obtain ⟨a', ha', hcx⟩ := qy lf (by omega)
        cases ha'
        rw [HKEY.out, Addr.add_lit, Nat.zero_add] at hcx
        go_simp
        all_goals rfl
      try simp only [Act.put, List.setIfInBounds_toArray, List.set_cons_zero, List.set_cons_succ]
      refine later_one (i := 41) (by kernel_rfl) (fun oi K hoi hK => ?_)
      simp at hoi
      subst hoi
      refine ⟨by rfl, ?_⟩
      go_simp
      refine (iMakKey_any s _ HS.out).mono ?_
      rintro e w9 ⟨rfl, hb⟩
      go_simp
      refine hK.out _ _ hb ?_
      clear hK
      replace A4 := hide (Blk.below (w := _) (unhide A4) hb)
      replace G4 := hide (SRow.below (w := _) (unhide G4) hb)
      replace HB4 := hide (HB4.out.trans (hb.mono HB4.out.size))
      try replace V := hide (IRow.below (w := _) (unhide V) hb)
      try replace UU := hide (IRow.below (w := _) (unhide UU) hb)
      clear hb
      try simp only [Act.put, List.setIfInBounds_toArray, List.set_cons_zero, List.set_cons_succ]
      refine later_take (i := 42) (d := 78) (v := ?_) (by kernel_rfl) (by kernel_rfl) (by kernel_rfl) (by kernel_rfl) (fun _ _ _ h => h) (fun oi hoi => ?_) ?_
      rotate_left
      · simp at hoi
        subst hoi
        refine ⟨by rfl, fun w' hw' => ?_⟩
        go_simp
        all_goals rfl
      try simp only [Act.put, List.setIfInBounds_toArray, List.set_cons_zero, List.set_cons_succ]
      refine later_take (i := 43) (d := 79) (v := ?_) (by kernel_rfl) (by kernel_rfl) (by kernel_rfl) (by kernel_rfl) (fun _ _ _ h => h) (fun oi hoi => ?_) ?_
      rotate_left
      · simp at hoi
        subst hoi
        refine ⟨by rfl, fun w' hw' => ?_⟩
        go_simp
        all_goals rfl
      try simp only [Act.put, List.setIfInBounds_toArray, List.set_cons_zero, List.set_cons_succ]
      refine later_take (i := 44) (d := 2) (v := ?_) (by kernel_rfl) (by kernel_rfl) (by kernel_rfl) (by kernel_rfl) (fun _ _ _ h => h) (fun oi hoi => ?_) ?_
      rotate_left
      · simp at hoi
        subst hoi
        refine ⟨by rfl, fun w' hw' => ?_⟩
        go_simp
        all_goals rfl
      try simp only [Act.put, List.setIfInBounds_toArray, List.set_cons_zero, List.set_cons_succ]
      refine later_done (by kernel_rfl) ?_ _
      go_wp2_with fail
      go_ret
      exact ⟨rfl, unhide HB4⟩
  · have HM : Hid (fstOf p s t = Mem.none) := fst_no hfo
    clear hfo
    go_wp2_with fail
    refine (iMemFirst_any p s t _ HS.out HT.out).mono ?_
    rw [HM.out]
    rintro e w2 ⟨v2, rfl, ⟨ks, os, rfl, ho2, hp2⟩, hb2⟩
    obtain ⟨a1, c1, hv1⟩ := row_form' ho2
    obtain ⟨a2, c2, hv2⟩ := row_form' hp2
    subst hv1 hv2
    simp only [Mem.none, List.length_nil] at ho2 hp2 ⊢
    have al : Below w2.heap.size w2 (w2.alloc (.cells (memC false 0 (.slice a1 0 c1) (.slice a2 0 c2) 0 ⟨#[]⟩ ⟨#[]⟩) 30)) := (Below.refl _ _).alloc (Nat.le_refl _) _
    have A := hide (Blk.new w2 30 (memC false 0 (.slice a1 0 c1) (.slice a2 0 c2) 0 ⟨#[]⟩ ⟨#[]⟩))
    have G : Hid (SRow _ _ []) := SRow.below (own_srow (base := w1.heap.size) (xs := []) ho2) al
    have H : Hid (MRow _ _ []) := MRow.below (OwnM.mrow (B := w1.heap.size) (bs := []) hp2) al
    have HB : Hid (Below w.heap.size w (w2.alloc (.cells (memC false 0 (.slice a1 0 c1) (.slice a2 0 c2) 0 ⟨#[]⟩ ⟨#[]⟩) 30))) := (HB1.out.trans (hb2.mono hle1)).alloc (Nat.le_trans hle1 hb2.size) _
    clear ho2 hp2 hb2 al HB1
    go_wp2_with fail
    generalize w2.alloc (.cells (memC false 0 (.slice a1 0 c1) (.slice a2 0 c2) 0 ⟨#[]⟩ ⟨#[]⟩) 30) = W at *
    refine wp_region_later (by kernel_rfl) ?_
    refine later_take (i := 0) (d := 20) (v := ?_) (by kernel_rfl) (by kernel_rfl) (by kernel_rfl) (by kernel_rfl) (fun _ _ _ h => h) (fun oi hoi => ?_) ?_
    rotate_left
    · simp at hoi
      subst hoi
      refine ⟨by rfl, fun w' hw' => ?_⟩
      have hx := Blk.below (w := W.drew) (unhide A) hw'
      have x0 := hx.cell 0
      have x1 := hx.cell 1
      have x2 := hx.cell 2
      have x3 := hx.cell 3
      have x4 := hx.cell 4
      have x5 := hx.cell 5
      have x6 := hx.cell 6
      simp only [List.getElem?_toArray, List.getElem?_cons_succ, List.getElem?_cons_zero] at x0 x1 x2 x3 x4 x5 x6
      go_simp
      all_goals rfl
    try simp only [Act.put, List.setIfInBounds_toArray, List.set_cons_zero, List.set_cons_succ]
    refine later_take (i := 1) (d := 21) (v := ?_) (by kernel_rfl) (by kernel_rfl) (by kernel_rfl) (by kernel_rfl) (fun _ _ _ h => h) (fun oi hoi => ?_) ?_
    rotate_left
    · simp at hoi
      subst hoi
      refine ⟨by rfl, fun w' hw' => ?_⟩
      go_simp
      all_goals rfl
    try simp only [Act.put, List.setIfInBounds_toArray, List.set_cons_zero, List.set_cons_succ]
    refine later_take (i := 2) (d := 22) (v := ?_) (by kernel_rfl) (by kernel_rfl) (by kernel_rfl) (by kernel_rfl) (fun _ _ _ h => h) (fun oi hoi => ?_) ?_
    rotate_left
    · simp at hoi
      subst hoi
      refine ⟨by rfl, fun w' hw' => ?_⟩
      go_simp
      all_goals rfl
    try simp only [Act.put, List.setIfInBounds_toArray, List.set_cons_zero, List.set_cons_succ]
    refine later_take (i := 3) (d := 23) (v := ?_) (by kernel_rfl) (by kernel_rfl) (by kernel_rfl) (by kernel_rfl) (fun _ _ _ h => h) (fun oi hoi => ?_) ?_
    rotate_left
    · simp at hoi
      subst hoi
      refine ⟨by rfl, fun w' hw' => ?_⟩
      go_simp
      all_goals rfl
    try simp only [Act.put, List.setIfInBounds_toArray, List.set_cons_zero, List.set_cons_succ]
    refine later_one (i := 4) (by kernel_rfl) (fun oi K hoi hK => ?_)
    simp at hoi
    subst hoi
    refine ⟨by rfl, ?_⟩
    go_simp
    refine (sMemFirst_any p s t _ HS.out HT.out).mono ?_
    rw [HM.out]
    rintro e w3 ⟨v3, rfl, ⟨ks3, os3, rfl, ho3, hp3⟩, hb3⟩
    obtain ⟨a3, c3, hv3⟩ := row_form' ho3
    obtain ⟨a4, c4, hv4⟩ := row_form' hp3
    subst hv3 hv4
    simp only [Mem.none, List.length_nil] at ho3 hp3 ⊢
    go_simp
    refine hK.out _ _ hb3 ?_
    clear hK
    have A3 := hide (Blk.below (w := W.drew) (unhide A) hb3)
    have G3 := hide (SRow.below (w := W.drew) (unhide G) hb3)
    have H3 := hide (MRow.below (w := W.drew) (unhide H) hb3)
    have HB3 := hide (HB.out.drew.trans (hb3.mono HB.out.size))
    have R3 : Hid (SRow _ _ []) := own_srow (base := W.drew.heap.size) (xs := []) ho3
    have S3 : Hid (MRow _ _ []) := OwnM.mrow (B := W.drew.heap.size) (bs := []) hp3
    clear ho3 hp3 hb3 A G H HB
    try simp only [Act.put, List.setIfInBounds_toArray, List.set_cons_zero, List.set_cons_succ]
    refine later_one (i := 5) (by kernel_rfl) (fun oi K hoi hK => ?_)
    simp at hoi
    subst hoi
    refine ⟨by rfl, ?_⟩
    go_simp
    refine (keMember_same Mem.none _ _ _ _ _ (unhide G3) (unhide H3) (unhide R3) (unhide S3)).mono ?_
    rintro e w4 ⟨rfl, hb4⟩
    go_simp
    refine hK.out _ _ hb4 ?_
    clear hK
    have A4 := hide ((unhide A3).below hb4)
    have G4 := hide ((unhide G3).below hb4)
    have H4 := hide ((unhide H3).below hb4)
    have HB4 := hide (HB3.out.trans (hb4.mono HB3.out.size))
    clear hb4 A3 G3 H3 HB3 R3 S3
    try simp only [Act.put, List.setIfInBounds_toArray, List.set_cons_zero, List.set_cons_succ]
    refine later_take (i := 6) (d := 26) (v := ?_) (by kernel_rfl) (by kernel_rfl) (by kernel_rfl) (by kernel_rfl) (fun _ _ _ h => h) (fun oi hoi => ?_) ?_
    rotate_left
    · simp at hoi
      subst hoi
      refine ⟨by rfl, fun w' hw' => ?_⟩
      go_simp
      all_goals rfl
    try simp only [Act.put, List.setIfInBounds_toArray, List.set_cons_zero, List.set_cons_succ]
    refine later_done (by kernel_rfl) ?_ _
    have l0 := (unhide A4).cell 0
    simp only [List.getElem?_toArray, List.getElem?_cons_zero] at l0
    have l1 := load_mm (unhide A4) rfl
    go_wp2_with (refine wpList_load_whole rfl 30 _ rfl ⟨w2.heap.size, 0, none⟩ rfl _ l1 ?_)
    refine (keMember_same Mem.none _ _ (.slice none 0 0) (.slice none 0 0) _ (unhide G4) (unhide H4) (.inl ⟨rfl, rfl⟩) ⟨none, 0, rfl, Nat.le_refl _, Nat.zero_le _, fun i hi => absurd hi (Nat.not_lt_zero _)⟩).mono ?_
    rintro e w5 ⟨rfl, hb5⟩
    have HB5 := hide (HB4.out.trans (hb5.mono HB4.out.size))
    clear hb5 l0 l1 A4 G4 H4 HB4
    go_wp2_with fail
    refine (keOk_any _).mono ?_
    rintro e w6 ⟨rfl, hb6⟩
    have HB6 := hide (HB5.out.trans (hb6.mono HB5.out.size))
    clear hb6
    go_wp2_with fail
    go_ret
    exact ⟨rfl, unhide HB6⟩

set_option maxRecDepth 100000 in
theorem lifted_FnMemFirst (os : Os) (started : os.Started) (H : Type) (enc : TypeId × Value → H) :
    ReturnsInHanded {} Try.checked os 3 .any (Rows.fnMemFirstSpec.pre6 enc Try.prog Try.f3 Rows.fnMemFirstRow.domain false) (Rows.fnMemFirstSpec.post enc Try.prog Try.f3 false true false false) := by
  refine returnsInHanded_of_change (C := Try.checked) own started (by kernel_rfl) Try.func3
    (ChangeSpec.witness6 (enc := enc) (C := Try.checked) false ⟨#[], #[.slice none 0 0], []⟩ 8 (by kernel_rfl) (by kernel_rfl) (by kernel_rfl) (by kernel_rfl)) ?_
  intro W base args ds gs before hval0 hW hcnd _
  have hval : ∀ (j : Nat) t v, Try.f3.params[j]? = some t → args[j]? = some v → Value.okWide Try.prog W .any base t v := hval0
  have hW' := hW
  obtain ⟨p, q, hA0, hV, rfl, hfz, hnd⟩ := hW
  have hA : DataW.TrodAll enc Try.prog W 0 (fun _ => true) true Try.f3.params.toList args.toList ds p := hA0
  rw [Try.params3] at hA hval
  obtain ⟨v0, vs0, d0, ds0, p0, q0, hargs, rfl, rfl, h0, r0⟩ := trodAll_cons hA
  obtain ⟨rfl, rfl, rfl⟩ := trodAll_nil r0
  obtain rfl : args = #[v0] := by cases args; simp_all
  obtain ⟨rfl, rfl⟩ := trodVars_none hV
  obtain ⟨a0, len0, cap0, rfl⟩ := okWide_slice Try.underlying22 (hval 0 22 v0 rfl rfl)
  have k0 := h0
  have lt0 : ∀ x ∈ p0, x.block < W.heap.size := by obtain ⟨m, hm⟩ := k0; exact DataW.trod_lt m _ _ _ hm
  obtain ⟨z0, w0⟩ : ∃ zs, IsRow .u8 W a0 len0 cap0 zs := by
    obtain ⟨fuel, hf⟩ := h0
    rcases open_ints Try.underlying22 Try.underlying5 (by kernel_rfl) hf with ⟨hcs, _⟩ | ⟨x, l, c, zs, hcs, _, hl, hm, hz, _, hcell, hwz⟩
    · simp [Value.cells] at hcs
      obtain ⟨rfl, rfl, rfl⟩ := hcs
      exact ⟨[], .inl ⟨rfl, rfl, rfl, rfl⟩⟩
    · simp [Value.cells] at hcs
      obtain ⟨rfl, rfl, rfl⟩ := hcs
      exact ⟨zs, .inr ⟨_, rfl, hl, hm, by simpa using hz, hcell, hwz⟩⟩
  clear hA0 hval0
  refine (walk_FnMemFirst a0 len0 cap0 z0 W w0).mono fun e W' ⟨he, bel⟩ => ?_
  subst he
  exact ⟨_, rfl, _, _, _, [], _, [], hW', trodAll_mk1 (shut_bool Try.underlying4 _), (trodAll_cons_mk (Below.trod laidOut (by kernel_rfl) (of_decide_eq_true (by kernel_rfl)) k0 bel lt0) trodAll_mk0), rfl, bel.frame _, fun h => by cases h⟩

theorem fnMemFirst_holds : Rows.FnMemFirstSaid :=
  OpenClaim.holds_of_wide 3 Try.f3 rfl rfl rfl rfl rfl rfl rfl ⟨rfl, rfl, rfl, rfl, rfl⟩ rfl rfl rfl rfl rfl (by kernel_rfl) Try.func3 (by kernel_rfl)
    (of_decide_eq_true (by kernel_rfl)) (by unfold Func.isWrapper; first | (rw [if_pos (by decide +kernel)]; kernel_rfl) | (rw [if_neg (by decide +kernel)]; exact ⟨rfl, rfl⟩))
    (fun os started H enc _ => lifted_FnMemFirst os started H enc)

#print axioms fnMemFirst_holds
end Go.Proofs.Ytkcopldlobomhaa
