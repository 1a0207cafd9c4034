/-
  Proved: at every tree, number and text the program's TreSet answers as the specification's; it writes into no argument and keeps nothing of one; its answer owns its memory, behind another call too. No condition.
-/
import Derived.Test.YtggdmdfebmcegaaFrameT
import Derived.Test.YtggdmdfebmcegaaHelpsU
import Derived.Test.YtggdmdfebmcegaaOrdR
import Derived.Test.YtggdmdfebmcegaaRowInI
import Derived.Test.YtggdmdfebmcegaaTSet
namespace Go.Proofs.Ytggdmdfebmcegaa
open Go.ChangeShapes Go.WideShapes Go.ChangeAt Go.RowKit
open Go.ChangeMaps (open_string shut_string)
set_option linter.unusedVariables false

set_option maxRecDepth 100000 in
set_option maxHeartbeats 8000000 in
theorem walk_FnExactTreSet (v : Value) (xs : List ByteArray) (p : Int) (s : ByteArray) (w : World) (h : SRow w v xs) (hx : ∀ x ∈ xs, x.size ≤ maxLen) (w1 : (Lit.int .i64 p).wf = true) (hs : s.size ≤ maxLen) :
    Calls Try.prog 10 #[.agg #[v], .int .i64 p, .string s] w fun e w' => e = .returned (.bool true) ∧ Below w.heap.size w w' := by
  have HR0 := hide h
  have HX := hide hx
  clear w1
  have HS := hide hs
  unfold maxLen at hs
  by_cases hbig : (1048576 : Int) < (s.size : Int)
  · obtain ⟨ao, cap, rfl, _, _, _⟩ := h.form
    clear h hx
    go_enter Try.func10, Try.ntmps10
    go_wp2_with fail
    go_ret
    exact ⟨rfl, (Below.refl _ _).alloc (Nat.le_refl _) _⟩
  have hbig2 : decide ((1048576 : Int) < (s.size : Int)) = false := by simpa using hbig
  clear hbig
  obtain ⟨ao, cap, rfl, _, _, _⟩ := h.form
  clear h hx
  have hml := setRes_len xs p s
  obtain ⟨L, hLL⟩ : ∃ L, setRes xs p s = L := ⟨_, rfl⟩
  rw [hLL] at hml
  have HL0 := hide hLL
  clear hLL
  go_enter Try.func10, Try.ntmps10
  go_wp2_with fail
  refine (szTreTree_any _ xs 1048576 _ ((unhide HR0).alloc _) (unhide HX) (by omega) (by omega)).mono ?_
  rintro e w1 ⟨r, rfl, hr1, hr2, hb1⟩
  have A1 := hide (box_below (Boxed.new w 45 (.slice ao xs.length cap)) hb1)
  have HB1 : Hid (Below w.heap.size w w1) := ((Below.refl _ _).alloc (Nat.le_refl _) _).trans (hb1.mono (by simp))
  have hs1 := hb1.size
  rw [World.size_alloc] at hs1
  have hR2 := hide hr2
  clear hb1 hr2
  by_cases hneg : r < 0
  · go_wp2_with fail
    go_ret
    exact ⟨rfl, unhide HB1⟩
  have hneg2 : decide (r < 0) = false := by simpa using hneg
  have HL : Hid (xs.length ≤ 1048576) := by
    have := (hR2.out (by omega)).1
    show _ ≤ _
    omega
  clear hneg hR2
  have l1 := (unhide A1).cell
  go_wp2_with fail
  refine (toTreTree_any _ xs _ ((unhide HR0).below (unhide HB1)) HL.out).mono ?_
  rintro e w2 ⟨v2, rfl, ho2, hb2⟩
  have A2 := hide (box_below (unhide A1) hb2)
  have HB2 := hide (HB1.out.trans (hb2.mono HB1.out.size))
  have S2 := hide ho2.srow
  have hs2 := hb2.size
  clear hb2 ho2 l1 A1 HB1
  go_wp2_with fail
  refine (sTreSet_any v2 xs p s _ (unhide S2) (unhide HX) HS.out).mono ?_
  rw [HL0.out]
  rintro e w3 ⟨u3, rfl, ho3, hb3⟩
  obtain ⟨o3, c3, hv3⟩ := row_form' ho3
  subst hv3
  have hs3 := hb3.size
  have W3 : Hid (TIn w2.heap.size w3.heap.size (w3.alloc (.cells #[.slice o3 L.length c3] 25)) (.slice o3 L.length c3) L) := RowIn.below (RowIn.of ho3) ((Below.refl _ _).alloc (Nat.le_refl _) _)
  have A3 := hide ((box_below (unhide A2) hb3).alloc (.cells #[.slice o3 L.length c3] 25))
  have C3 := hide (Boxed.new w3 25 (.slice o3 L.length c3))
  have HB3 : Hid (Below w.heap.size w (w3.alloc (.cells #[.slice o3 L.length c3] 25))) := (HB2.out.trans (hb3.mono HB2.out.size)).alloc (Nat.le_trans HB2.out.size hs3) _
  clear hb3 ho3 A2 HB2 S2
  have l1 := (unhide A3).cell
  go_wp2_with fail
  refine (toTreTree_any _ xs _ ((unhide HR0).below (unhide HB3)) HL.out).mono ?_
  rintro e w4 ⟨v4, rfl, ho4, hb4⟩
  obtain ⟨o4, c4, hv4⟩ := row_form' ho4
  subst hv4
  have hs4 := hb4.size
  rw [World.size_alloc] at hs4
  have A4 := hide ((box_below (unhide A3) hb4).alloc (.cells #[.slice o4 xs.length c4] 25))
  have B4 := hide (Boxed.new w4 25 (.slice o4 xs.length c4))
  have W4 := hide (((unhide W3).below hb4).below ((Below.refl _ _).alloc (Nat.le_refl _) (.cells #[.slice o4 xs.length c4] 25)))
  have C4 := hide ((box_below (unhide C3) hb4).alloc (.cells #[.slice o4 xs.length c4] 25))
  have X4 : Hid (TIn (w3.heap.size + 1) w4.heap.size (w4.alloc (.cells #[.slice o4 xs.length c4] 25)) (.slice o4 xs.length c4) xs) := by
    have q := RowIn.below (RowIn.of ho4) ((Below.refl _ _).alloc (Nat.le_refl _) (.cells #[.slice o4 xs.length c4] 25))
    rw [World.size_alloc] at q
    exact q
  have HB4 : Hid (Below w.heap.size w (w4.alloc (.cells #[.slice o4 xs.length c4] 25))) := (HB3.out.trans (hb4.mono HB3.out.size)).alloc (Nat.le_trans HB3.out.size hb4.size) _
  clear hb4 ho4 l1 A3 HB3 W3 C3
  have l1 := (unhide B4).cell
  go_wp2_with fail
  refine (iTreSet_any _ xs p s _ (unhide X4).srow (unhide HX) HS.out).mono ?_
  rw [HL0.out]
  rintro e w5 ⟨u5, rfl, ho5, hb5⟩
  obtain ⟨o5, c5, hv5⟩ := row_form' ho5
  subst hv5
  have hs5 := hb5.size
  rw [World.size_alloc] at hs5
  have G5 : Hid (TIn (w4.heap.size + 1) w5.heap.size (w5.alloc (.cells #[.slice o5 L.length c5] 25)) (.slice o5 L.length c5) L) := by
    have q := RowIn.below (RowIn.of ho5) ((Below.refl _ _).alloc (Nat.le_refl _) (.cells #[.slice o5 L.length c5] 25))
    rw [World.size_alloc] at q
    exact q
  have A5 := hide ((box_below (unhide A4) hb5).alloc (.cells #[.slice o5 L.length c5] 25))
  have B5 := hide ((box_below (unhide B4) hb5).alloc (.cells #[.slice o5 L.length c5] 25))
  have C5 := hide ((box_below (unhide C4) hb5).alloc (.cells #[.slice o5 L.length c5] 25))
  have D5 := hide (Boxed.new w5 25 (.slice o5 L.length c5))
  have W5 := hide (((unhide W4).below hb5).below ((Below.refl _ _).alloc (Nat.le_refl _) (.cells #[.slice o5 L.length c5] 25)))
  have X5 := hide (((unhide X4).below hb5).below ((Below.refl _ _).alloc (Nat.le_refl _) (.cells #[.slice o5 L.length c5] 25)))
  have HB5 : Hid (Below w.heap.size w (w5.alloc (.cells #[.slice o5 L.length c5] 25))) := (HB4.out.trans (hb5.mono HB4.out.size)).alloc (Nat.le_trans HB4.out.size hb5.size) _
  clear hb5 ho5 l1 A4 B4 C4 W4 X4 HB4
  have l1 := (unhide D5).cell
  have l2 := (unhide C5).cell
  go_wp2_with fail
  refine (eqTreTree_any _ _ L L _ (unhide G5).srow (unhide W5).srow).mono ?_
  rw [show decide (L = L) = true by simp]
  rintro e w6 ⟨rfl, hb6⟩
  have hs6 := hb6.size
  rw [World.size_alloc] at hs6
  have A6 := hide (box_below (unhide A5) hb6)
  have B6 := hide (box_below (unhide B5) hb6)
  have C6 := hide (box_below (unhide C5) hb6)
  have D6 := hide (box_below (unhide D5) hb6)
  have W6 := hide ((unhide W5).below hb6)
  have X6 := hide ((unhide X5).below hb6)
  have G6 := hide ((unhide G5).below hb6)
  have HB6 := hide (HB5.out.trans (hb6.mono HB5.out.size))
  clear A5 B5 C5 D5 W5 X5 G5 HB5 hb6 l1 l2
  go_wp2_with fail
  refine wp_region_later (by kernel_rfl) ?_
  refine later_take (i := 0) (d := 38) (v := ?_) (by kernel_rfl) (by kernel_rfl) (by kernel_rfl) (by kernel_rfl) (fun _ _ _ h => h) (fun oi hoi => ?_) ?_
  rotate_left
  · simp at hoi
    subst hoi
    refine ⟨by rfl, fun w' hw' => ?_⟩
    have hx := (box_below (w := w6.drew) (unhide B6) hw').cell
    go_simp
    all_goals rfl
  try simp only [Act.put, List.setIfInBounds_toArray, List.set_cons_zero, List.set_cons_succ]
  refine later_take (i := 1) (d := 39) (v := ?_) (by kernel_rfl) (by kernel_rfl) (by kernel_rfl) (by kernel_rfl) (fun _ _ _ h => h) (fun oi hoi => ?_) ?_
  rotate_left
  · simp at hoi
    subst hoi
    refine ⟨by rfl, fun w' hw' => ?_⟩
    have hx := (box_below (w := w6.drew) (unhide A6) hw').cell
    go_simp
    all_goals rfl
  try simp only [Act.put, List.setIfInBounds_toArray, List.set_cons_zero, List.set_cons_succ]
  refine later_one (i := 2) (by kernel_rfl) (fun oi K hoi hK => ?_)
  simp at hoi
  subst hoi
  refine ⟨by rfl, ?_⟩
  go_simp
  refine (toTreTree_any _ xs _ (((unhide HR0).below (unhide HB6)).drew) HL.out).mono ?_
  rintro e w7 ⟨v7, rfl, ho7, hb7⟩
  go_simp
  refine hK.out _ _ hb7 ?_
  clear hK
  have hs7 : w6.heap.size ≤ w7.heap.size := hb7.size
  have HB7 := hide (HB6.out.drew.trans (hb7.mono HB6.out.size))
  have T7 := hide ho7.srow
  have A7 := hide (box_below (w := w6.drew) (unhide A6) hb7)
  have B7 := hide (box_below (w := w6.drew) (unhide B6) hb7)
  have C7 := hide (box_below (w := w6.drew) (unhide C6) hb7)
  have D7 := hide (box_below (w := w6.drew) (unhide D6) hb7)
  have W7 := hide (RowIn.below (w := w6.drew) (unhide W6) hb7)
  have X7 := hide (RowIn.below (w := w6.drew) (unhide X6) hb7)
  have G7 := hide (RowIn.below (w := w6.drew) (unhide G6) hb7)
  clear ho7 hb7 HB6 A6 B6 C6 D6 W6 X6 G6
  try simp only [Act.put, List.setIfInBounds_toArray, List.set_cons_zero, List.set_cons_succ]
  refine later_one (i := 3) (by kernel_rfl) (fun oi K hoi hK => ?_)
  simp at hoi
  subst hoi
  refine ⟨by rfl, ?_⟩
  go_simp
  refine (eqTreTree_any _ v7 xs xs _ (TIn.srow (unhide X7)) (unhide T7)).mono ?_
  rw [show decide (xs = xs) = true by simp]
  rintro e w8 ⟨rfl, hb8⟩
  go_simp
  refine hK.out _ _ hb8 ?_
  clear hK
  have hs8 := hb8.size
  have HB8 := hide (HB7.out.trans (hb8.mono HB7.out.size))
  have A8 := hide (box_below (unhide A7) hb8)
  have B8 := hide (box_below (unhide B7) hb8)
  have C8 := hide (box_below (unhide C7) hb8)
  have D8 := hide (box_below (unhide D7) hb8)
  have W8 := hide (RowIn.below (unhide W7) hb8)
  have X8 := hide (RowIn.below (unhide X7) hb8)
  have G8 := hide (RowIn.below (unhide G7) hb8)
  clear hb8 T7 HB7 A7 B7 C7 D7 W7 X7 G7
  try simp only [Act.put, List.setIfInBounds_toArray, List.set_cons_zero, List.set_cons_succ]
  refine later_take (i := 4) (d := 42) (v := ?_) (by kernel_rfl) (by kernel_rfl) (by kernel_rfl) (by kernel_rfl) (fun _ _ _ h => h) (fun oi hoi => ?_) ?_
  rotate_left
  · simp at hoi
    subst hoi
    refine ⟨by rfl, fun w' hw' => ?_⟩
    go_simp
    all_goals rfl
  try simp only [Act.put, List.setIfInBounds_toArray, List.set_cons_zero, List.set_cons_succ]
  refine later_done (by kernel_rfl) ?_ _
  have l1 := (unhide B8).cell
  go_wp2_with fail
  refine (markTreTree_any (w3.heap.size + 1) _ xs 1 _ (unhide X8).1 (by omega) (by omega) HL.out).mono ?_
  rintro e w9 ⟨rfl, ho9, hg9⟩
  have hs9 := hg9.size
  have hout := RowIn.out (unhide X8)
  have A9 := hide ((unhide A8).kept hg9 (fun q => by have := hout _ q.symm; omega))
  have B9 := hide ((unhide B8).kept hg9 (fun q => by have := hout _ q.symm; omega))
  have C9 := hide ((unhide C8).kept hg9 (fun q => by have := hout _ q.symm; omega))
  have D9 := hide ((unhide D8).kept hg9 (fun q => by have := hout _ q.symm; omega))
  have W9 : Hid (TIn w2.heap.size w3.heap.size w9 (.slice o3 L.length c3) L) := RowIn.grown (unhide W8) hg9 (fun k hk => .inr (by have := (hout k hk).1; omega))
  have G9 : Hid (TIn (w4.heap.size + 1) w5.heap.size w9 (.slice o5 L.length c5) L) := RowIn.grown (unhide G8) hg9 (fun k hk => .inl (by have := (hout k hk).2; omega))
  have HB9 : Hid (Below w.heap.size w w9) := (unhide HB8).grown hg9 HB8.out.size (fun k hk => by have := (hout k hk).1; omega)
  obtain ⟨z, hz⟩ : ∃ z : Int, ((1 + xs.length : Nat) : Int) = z := ⟨_, rfl⟩
  rw [hz]
  have hz0 : decide (z < 0) = false := by simp; omega
  clear hz ho9 hg9 hout A8 B8 C8 D8 X8 W8 G8 HB8 l1
  have l1 := (unhide D9).cell
  have l2 := (unhide C9).cell
  go_wp2_with fail
  refine (eqTreTree_any _ _ L L _ (TIn.srow (unhide G9)) (TIn.srow (unhide W9))).mono ?_
  rw [show decide (L = L) = true by simp]
  rintro e w10 ⟨rfl, hb10⟩
  have hs10 := hb10.size
  have A10 := hide (box_below (unhide A9) hb10)
  have C10 := hide (box_below (unhide C9) hb10)
  have D10 := hide (box_below (unhide D9) hb10)
  have W10 := hide (TIn.below (unhide W9) hb10)
  have G10 := hide (TIn.below (unhide G9) hb10)
  have HB10 := hide (HB9.out.trans (hb10.mono HB9.out.size))
  clear hb10 HB9 A9 C9 D9 W9 G9 l1 l2 B9
  have l1 := (unhide D10).cell
  go_wp2_with fail
  refine (markTreTree_any (w4.heap.size + 1) _ L 1 _ (unhide G10).1 (by omega) (by omega) (by omega)).mono ?_
  rintro e w11 ⟨rfl, ho11, hg11⟩
  have hs11 := hg11.size
  have hout := RowIn.out (unhide G10)
  have A11 := hide ((unhide A10).kept hg11 (fun q => by have := hout _ q.symm; omega))
  have C11 := hide ((unhide C10).kept hg11 (fun q => by have := hout _ q.symm; omega))
  have D11 := hide ((unhide D10).kept hg11 (fun q => by have := hout _ q.symm; omega))
  have W11 : Hid (TIn w2.heap.size w3.heap.size w11 (.slice o3 L.length c3) L) := RowIn.grown (unhide W10) hg11 (fun k hk => .inr (by have := (hout k hk).1; omega))
  have G11 : Hid (TIn (w4.heap.size + 1) w5.heap.size w11 (.slice o5 L.length c5) (marks 1 L.length)) := ⟨ho11, fun g hg => (hout g hg).2⟩
  have HB11 : Hid (Below w.heap.size w w11) := (unhide HB10).grown hg11 HB10.out.size (fun k hk => by have := (hout k hk).1; omega)
  clear ho11 hg11 hout A10 C10 D10 W10 G10 HB10 l1
  have hy : Hid (((1 + L.length : Nat) : Int) = 1 + (L.length : Int)) := by show _ = _; omega
  generalize ((1 + L.length : Nat) : Int) = y at hy ⊢
  have hy0 : decide (y < 0) = false := by have := hy.out; simp; omega
  have l1 := (unhide D11).cell
  go_wp2_with fail
  refine (heldTreTree_any _ L.length 1 _ (unhide G11).srow (by omega) (by omega) (by omega)).mono ?_
  rw [show ((1 + L.length : Nat) : Int) = y by have := hy.out; omega]
  rintro e w12 ⟨rfl, hb12⟩
  have hs12 := hb12.size
  have A12 := hide (box_below (unhide A11) hb12)
  have C12 := hide (box_below (unhide C11) hb12)
  have D12 := hide (box_below (unhide D11) hb12)
  have W12 := hide (TIn.below (unhide W11) hb12)
  have G12 := hide (TIn.below (unhide G11) hb12)
  have HB12 := hide (HB11.out.trans (hb12.mono HB11.out.size))
  clear hb12 HB11 A11 C11 D11 W11 G11 l1
  have l1 := (unhide A12).cell
  go_wp2_with fail
  refine (toTreTree_any _ xs _ ((unhide HR0).below (unhide HB12)) HL.out).mono ?_
  rintro e w13 ⟨v13, rfl, ho13, hb13⟩
  have S13 := hide ho13.srow
  have hs13 := hb13.size
  have A13 := hide (box_below (unhide A12) hb13)
  have C13 := hide (box_below (unhide C12) hb13)
  have D13 := hide (box_below (unhide D12) hb13)
  have W13 := hide (TIn.below (unhide W12) hb13)
  have G13 := hide (TIn.below (unhide G12) hb13)
  have HB13 := hide (HB12.out.trans (hb13.mono HB12.out.size))
  clear hb13 ho13 HB12 A12 C12 D12 W12 G12 l1
  go_wp2_with fail
  refine (iTreSet_any _ xs p s _ (unhide S13) (unhide HX) HS.out).mono ?_
  rw [HL0.out]
  rintro e w14 ⟨u14, rfl, ho14, hb14⟩
  obtain ⟨o14, c14, hv14⟩ := row_form' ho14
  subst hv14
  have hs14 := hb14.size
  have C14 := hide ((box_below (unhide C13) hb14).alloc (.cells #[.slice o14 L.length c14] 25))
  have D14 := hide ((box_below (unhide D13) hb14).alloc (.cells #[.slice o14 L.length c14] 25))
  have E14 := hide (Boxed.new w14 25 (.slice o14 L.length c14))
  have W14 := hide ((TIn.below (unhide W13) hb14).below ((Below.refl _ _).alloc (Nat.le_refl _) (.cells #[.slice o14 L.length c14] 25)))
  have G14 := hide ((TIn.below (unhide G13) hb14).below ((Below.refl _ _).alloc (Nat.le_refl _) (.cells #[.slice o14 L.length c14] 25)))
  have H14 : Hid (SRow (w14.alloc (.cells #[.slice o14 L.length c14] 25)) (.slice o14 L.length c14) L) := ho14.srow.alloc _
  have HB14 : Hid (Below w.heap.size w (w14.alloc (.cells #[.slice o14 L.length c14] 25))) := (HB13.out.trans (hb14.mono HB13.out.size)).alloc (Nat.le_trans HB13.out.size hs14) _
  clear hb14 ho14 HB13 W13 G13 A13 C13 D13 S13
  have l1 := (unhide E14).cell
  have l2 := (unhide C14).cell
  go_wp2_with fail
  refine (eqTreTree_any _ _ L L _ (unhide H14) (unhide W14).srow).mono ?_
  rw [show decide (L = L) = true by simp]
  rintro e w15 ⟨rfl, hb15⟩
  have G15 := hide (TIn.below (unhide G14) hb15)
  have D15 := hide (box_below (unhide D14) hb15)
  have HB15 := hide (HB14.out.trans (hb15.mono HB14.out.size))
  clear hb15 HB14 W14 G14 H14 C14 D14 E14 l1 l2
  have l1 := (unhide D15).cell
  go_wp2_with fail
  refine (heldTreTree_any _ L.length 1 _ (unhide G15).srow (by omega) (by omega) (by omega)).mono ?_
  rw [show ((1 + L.length : Nat) : Int) = y by have := hy.out; omega]
  rintro e w16 ⟨rfl, hb16⟩
  have HB16 := hide (HB15.out.trans (hb16.mono HB15.out.size))
  clear hb16 HB15 G15 D15 l1
  go_wp2_with fail
  go_ret
  exact ⟨rfl, unhide HB16⟩

set_option maxRecDepth 100000 in
theorem lifted_FnExactTreSet (os : Os) (started : os.Started) (H : Type) (enc : TypeId × Value → H) :
    ReturnsInHanded {} Try.checked os 10 .any (Rows.fnExactTreSetSpec.pre6 enc Try.prog Try.f10 Rows.fnExactTreSetRow.domain false) (Rows.fnExactTreSetSpec.post enc Try.prog Try.f10 false true false false) := by
  refine returnsInHanded_of_change (C := Try.checked) own started (by kernel_rfl) Try.func10
    (ChangeSpec.witness6 (enc := enc) (C := Try.checked) false ⟨#[], #[.agg #[.slice none 0 0], .int .i64 0, .string ByteArray.empty], []⟩ 8 (by kernel_rfl) (by kernel_rfl) (by kernel_rfl) (by kernel_rfl)) ?_
  intro W base args ds gs before hval0 hW hcnd _
  have hval : ∀ (j : Nat) t v, Try.f10.params[j]? = some t → args[j]? = some v → Value.okWide Try.prog W .any base t v := hval0
  have hW' := hW
  obtain ⟨p, q, hA0, hV, rfl, hfz, hnd⟩ := hW
  have hA : DataW.TrodAll enc Try.prog W 0 (fun _ => true) true Try.f10.params.toList args.toList ds p := hA0
  rw [Try.params10] at hA hval
  obtain ⟨v0, vs0, d0, ds0, p0, q0, hargs, rfl, rfl, h0, r0⟩ := trodAll_cons hA
  obtain ⟨v1, vs1, d1, ds1, p1, q1, rfl, rfl, rfl, h1, r1⟩ := trodAll_cons r0
  obtain ⟨v2, vs2, d2, ds2, p2, q2, rfl, rfl, rfl, h2, r2⟩ := trodAll_cons r1
  obtain ⟨rfl, rfl, rfl⟩ := trodAll_nil r2
  obtain rfl : args = #[v0, v1, v2] := by cases args; simp_all
  obtain ⟨rfl, rfl⟩ := trodVars_none hV
  obtain ⟨c0, rfl, hc0⟩ := okWide_struct Try.underlying45 (hval 0 45 v0 rfl rfl)
  have k0 := h0
  have lt0 : ∀ x ∈ p0, x.block < W.heap.size := by obtain ⟨m, hm⟩ := k0; exact DataW.trod_lt m _ _ _ hm
  obtain ⟨u0, z0, rfl, w0, x0⟩ : ∃ u zs, c0 = #[u] ∧ SRow W u zs ∧ ∀ y ∈ zs, y.size ≤ maxLen := by
    obtain ⟨fuel, hf⟩ := h0
    exact open_tree hc0 hf
  obtain ⟨a1, rfl, rfl, rfl, w1⟩ := open_int Try.underlying3 (hval 1 3 v1 rfl rfl) h1
  obtain ⟨a2, rfl, rfl, rfl, w2⟩ := open_string Try.underlying9 (hval 2 9 v2 rfl rfl) h2
  clear hA0 hval0
  refine (walk_FnExactTreSet u0 z0 a1 a2 W w0 x0 w1 w2).mono fun e W' ⟨he, bel⟩ => ?_
  subst he
  exact ⟨_, rfl, _, _, _, [], _, [], hW', trodAll_mk1 (shut_bool Try.underlying4 _), (trodAll_cons_mk (Below.trod laidOut (by kernel_rfl) (of_decide_eq_true (by kernel_rfl)) k0 bel lt0) (trodAll_cons_mk (shut_int Try.underlying3 w1) (trodAll_cons_mk (shut_string Try.underlying9 w2) trodAll_mk0))), rfl, bel.frame _, fun h => by cases h⟩

theorem fnExactTreSet_holds : Rows.FnExactTreSetSaid :=
  OpenClaim.holds_of_wide 10 Try.f10 rfl rfl rfl rfl rfl rfl rfl ⟨rfl, rfl, rfl, rfl, rfl⟩ rfl rfl rfl rfl rfl (by kernel_rfl) Try.func10 (by kernel_rfl)
    (of_decide_eq_true (by kernel_rfl)) (by unfold Func.isWrapper; first | (rw [if_pos (by decide +kernel)]; kernel_rfl) | (rw [if_neg (by decide +kernel)]; exact ⟨rfl, rfl⟩))
    (fun os started H enc _ => lifted_FnExactTreSet os started H enc)

#print axioms fnExactTreSet_holds
end Go.Proofs.Ytggdmdfebmcegaa
