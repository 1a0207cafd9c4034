/-
  Proved: at every texts, boxes and text the program's KnwHas answers as the specification's KnwHas, and nothing that was there is written. No condition.
-/
import Derived.Test.YtjdpabiodalfkaaFrameB
import Derived.Test.YtjdpabiodalfkaaHelpsC
import Derived.Test.YtjdpabiodalfkaaIOpen
namespace Go.Proofs.Ytjdpabiodalfkaa
open Go.ChangeShapes Go.WideShapes Go.ChangeAt Go.RowKit
open Go.ChangeMaps (open_string shut_string)
set_option linter.unusedVariables false

set_option maxRecDepth 100000 in
set_option maxHeartbeats 2000000 in
theorem walk_FnExactKnwHas (v : Value) (xs : List ByteArray) (u : Value) (bs : List Bx) (s : ByteArray) (w : World) (h : SRow w v xs) (hx : ∀ x ∈ xs, x.size ≤ maxLen) (k : BRow w u bs) (hy : ∀ b ∈ bs, b.1.size ≤ maxLen ∧ b.2.size ≤ maxLen) (hs : s.size ≤ maxLen) :
    Calls Try.prog 13 #[v, u, .string s] w fun e w' => e = .returned (.bool true) ∧ Below w.heap.size w w' := by
  have HR := hide h
  have HU := hide k
  have HX := hide hx
  have HY := hide hy
  have M := hide hs
  unfold maxLen at hs
  clear h hx k hy
  by_cases h : (1048576 : Int) < (s.size : Int)
  · go_enter Try.func13, Try.ntmps13
    go_wp2_with fail
    go_ret
    exact ⟨rfl, Below.refl _ _⟩
  have h2 : decide ((1048576 : Int) < (s.size : Int)) = false := by simpa using h
  clear h
  go_enter Try.func13, Try.ntmps13
  go_wp2_with fail
  refine (szStringS_any v xs 1048576 _ (unhide HR) (unhide HX) (by omega) (by omega)).mono ?_
  rintro e w1 ⟨r, rfl, hr1, hr2, hb1⟩
  have HB1 := hide hb1
  have hle1 := hb1.size
  have hR2 := hide hr2
  clear hb1 hr2
  by_cases hneg : r < 0
  · go_wp2_with fail
    go_ret
    exact ⟨rfl, unhide HB1⟩
  have hneg2 : decide (r < 0) = false := by simpa using hneg
  have HL : Hid (xs.length ≤ 1048576) := by
    have := (hR2.out (by omega)).1
    show _ ≤ _
    omega
  have hr0 : 0 ≤ r := by omega
  clear hneg
  go_wp2_with fail
  refine (szKnwBoxS_any u bs r _ (BRow.below (unhide HU) (unhide HB1)) (unhide HY) hr0 (by omega)).mono ?_
  rintro e w2 ⟨q, rfl, hq1, hq2, hb2⟩
  have HB2 := hide ((unhide HB1).trans (hb2.mono hle1))
  have hle2 := HB2.out.size
  have hQ2 := hide hq2
  clear hb2 hq2
  by_cases hneg : q < 0
  · go_wp2_with fail
    go_ret
    exact ⟨rfl, unhide HB2⟩
  have hneg3 : decide (q < 0) = false := by simpa using hneg
  have HLB : Hid (bs.length ≤ 1048576) := by
    have := hQ2.out (by omega)
    show _ ≤ _
    omega
  clear hneg
  go_wp2_with fail
  refine (toStringS_any v xs _ (SRow.below (unhide HR) (unhide HB2)) HL.out).mono ?_
  rintro e w3 ⟨p3, rfl, ho3, hb3⟩
  have HO3 := hide (own_srow ho3)
  have HB3 := hide ((unhide HB2).trans (hb3.mono hle2))
  have hle3 := HB3.out.size
  clear ho3 hb3
  go_wp2_with fail
  refine (toKnwBoxS_any u bs _ (BRow.below (unhide HU) (unhide HB3)) HLB.out).mono ?_
  rintro e w4 ⟨p4, rfl, ho4, hb4⟩
  have HO4 := hide (OwnB.brow ho4)
  have HO34 := hide (SRow.below (unhide HO3) hb4)
  have HB4 := hide ((unhide HB3).trans (hb4.mono hle3))
  have hle4 := HB4.out.size
  clear ho4 hb4
  go_wp2_with fail
  refine (sKnwHas_any p3 p4 xs bs s _ (unhide HO34) (unhide HO4) (unhide HX) (unhide HY) M.out).mono ?_
  rintro e w5 ⟨rfl, hb5⟩
  have HB5 := hide ((unhide HB4).trans (hb5.mono hle4))
  have hle5 := HB5.out.size
  clear hb5 HO3 HO34 HO4
  generalize hbv : knwHas xs bs s = b
  have HBV := hide hbv
  clear hbv
  go_wp2_with fail
  refine (toStringS_any v xs _ (SRow.below (unhide HR) (unhide HB5)) HL.out).mono ?_
  rintro e w6 ⟨p6, rfl, ho6, hb6⟩
  have HO6 := hide (own_srow ho6)
  have HB6 := hide ((unhide HB5).trans (hb6.mono hle5))
  have hle6 := HB6.out.size
  clear ho6 hb6
  go_wp2_with fail
  refine (toKnwBoxS_any u bs _ (BRow.below (unhide HU) (unhide HB6)) HLB.out).mono ?_
  rintro e w7 ⟨p7, rfl, ho7, hb7⟩
  have HP7 := hide (OwnB.brow ho7)
  have HO7 := hide (SRow.below (unhide HO6) hb7)
  have HB7 := hide ((unhide HB6).trans (hb7.mono hle6))
  have hle7 := HB7.out.size
  clear ho7 hb7 HO6
  go_wp2_with fail
  refine (iKnwHas_any p6 p7 xs bs s _ (unhide HO7) (unhide HP7) (unhide HX) (unhide HY) M.out).mono ?_
  rw [HBV.out]
  rintro e w8 ⟨rfl, hb8⟩
  have HP8 := hide (BRow.below (unhide HP7) hb8)
  have HO8 := hide (SRow.below (unhide HO7) hb8)
  have HB8 := hide ((unhide HB7).trans (hb8.mono hle7))
  have hle8 := HB8.out.size
  clear hb8 HP7 HO7
  go_wp2_with fail
  refine (toStringS_any v xs _ (SRow.below (unhide HR) (unhide HB8)) HL.out).mono ?_
  rintro e w9 ⟨p9, rfl, ho9, hb9⟩
  have HQ9 := hide (own_srow ho9)
  have HP9 := hide (BRow.below (unhide HP8) hb9)
  have HO9 := hide (SRow.below (unhide HO8) hb9)
  have HB9 := hide ((unhide HB8).trans (hb9.mono hle8))
  have hle9 := HB9.out.size
  clear ho9 hb9 HP8 HO8
  go_wp2_with fail
  refine (eqStringS_any p6 p9 xs xs _ (unhide HO9) (unhide HQ9)).mono ?_
  rw [show decide (xs = xs) = true by simp]
  rintro e w10 ⟨rfl, hb10⟩
  have HP10 := hide (BRow.below (unhide HP9) hb10)
  have HB10 := hide ((unhide HB9).trans (hb10.mono hle9))
  have hle10 := HB10.out.size
  clear hb10 HP9 HO9 HQ9
  go_wp2_with fail
  refine (toKnwBoxS_any u bs _ (BRow.below (unhide HU) (unhide HB10)) HLB.out).mono ?_
  rintro e w11 ⟨p11, rfl, ho11, hb11⟩
  have HQ11 := hide (OwnB.brow ho11)
  have HP11 := hide (BRow.below (unhide HP10) hb11)
  have HB11 := hide ((unhide HB10).trans (hb11.mono hle10))
  have hle11 := HB11.out.size
  clear ho11 hb11 HP10
  go_wp2_with fail
  refine (eqKnwBoxS_any p7 p11 bs _ (unhide HP11) (unhide HQ11)).mono ?_
  rintro e w12 ⟨rfl, hb12⟩
  go_wp2_with fail
  go_ret
  exact ⟨rfl, (unhide HB11).trans (hb12.mono hle11)⟩

set_option maxRecDepth 100000 in
theorem lifted_FnExactKnwHas (os : Os) (started : os.Started) (H : Type) (enc : TypeId × Value → H) :
    ReturnsInHanded {} Try.checked os 13 .any (Rows.fnExactKnwHasSpec.pre6 enc Try.prog Try.f13 Rows.fnExactKnwHasRow.domain false) (Rows.fnExactKnwHasSpec.post enc Try.prog Try.f13 false true false false) := by
  refine returnsInHanded_of_change (C := Try.checked) own started (by kernel_rfl) Try.func13
    (ChangeSpec.witness6 (enc := enc) (C := Try.checked) false ⟨#[], #[.slice none 0 0, .slice none 0 0, .string ByteArray.empty], []⟩ 8 (by kernel_rfl) (by kernel_rfl) (by kernel_rfl) (by kernel_rfl)) ?_
  intro W base args ds gs before hval0 hW hcnd _
  have hval : ∀ (j : Nat) t v, Try.f13.params[j]? = some t → args[j]? = some v → Value.okWide Try.prog W .any base t v := hval0
  have hW' := hW
  obtain ⟨p, q, hA0, hV, rfl, hfz, hnd⟩ := hW
  have hA : DataW.TrodAll enc Try.prog W 0 (fun _ => true) true Try.f13.params.toList args.toList ds p := hA0
  rw [Try.params13] at hA hval
  obtain ⟨v0, vs0, d0, ds0, p0, q0, hargs, rfl, rfl, h0, r0⟩ := trodAll_cons hA
  obtain ⟨v1, vs1, d1, ds1, p1, q1, rfl, rfl, rfl, h1, r1⟩ := trodAll_cons r0
  obtain ⟨v2, vs2, d2, ds2, p2, q2, rfl, rfl, rfl, h2, r2⟩ := trodAll_cons r1
  obtain ⟨rfl, rfl, rfl⟩ := trodAll_nil r2
  obtain rfl : args = #[v0, v1, v2] := by cases args; simp_all
  obtain ⟨rfl, rfl⟩ := trodVars_none hV
  obtain ⟨a0, len0, cap0, rfl⟩ := okWide_slice Try.underlying23 (hval 0 23 v0 rfl rfl)
  have k0 := h0
  have lt0 : ∀ x ∈ p0, x.block < W.heap.size := by obtain ⟨m, hm⟩ := k0; exact DataW.trod_lt m _ _ _ hm
  obtain ⟨z0, w0, x0⟩ : ∃ zs, SRow W (.slice a0 len0 cap0) zs ∧ ∀ x ∈ zs, x.size ≤ maxLen := by
    obtain ⟨fuel, hf⟩ := h0
    exact open_srow hf
  obtain ⟨a1, len1, cap1, rfl⟩ := okWide_slice Try.underlying52 (hval 1 52 v1 rfl rfl)
  have k1 := h1
  have lt1 : ∀ x ∈ p1, x.block < W.heap.size := by obtain ⟨m, hm⟩ := k1; exact DataW.trod_lt m _ _ _ hm
  obtain ⟨z1, w1, x1⟩ : ∃ zs, BRow W (.slice a1 len1 cap1) zs ∧ ∀ x ∈ zs, x.1.size ≤ maxLen ∧ x.2.size ≤ maxLen := by
    obtain ⟨fuel, hf⟩ := h1
    exact open_brow hf
  obtain ⟨a2, rfl, rfl, rfl, w2⟩ := open_string Try.underlying9 (hval 2 9 v2 rfl rfl) h2
  clear hA0 hval0
  refine (walk_FnExactKnwHas (.slice a0 len0 cap0) z0 (.slice a1 len1 cap1) z1 a2 W w0 x0 w1 x1 w2).mono fun e W' ⟨he, bel⟩ => ?_
  subst he
  exact ⟨_, rfl, _, _, _, [], _, [], hW', trodAll_mk1 (shut_bool Try.underlying4 _), (trodAll_cons_mk (Below.trod laidOut (by kernel_rfl) (of_decide_eq_true (by kernel_rfl)) k0 bel lt0) (trodAll_cons_mk (Below.trod laidOut (by kernel_rfl) (of_decide_eq_true (by kernel_rfl)) k1 bel lt1) (trodAll_cons_mk (shut_string Try.underlying9 w2) trodAll_mk0))), rfl, bel.frame _, fun h => by cases h⟩

theorem fnExactKnwHas_holds : Rows.FnExactKnwHasSaid :=
  OpenClaim.holds_of_wide 13 Try.f13 rfl rfl rfl rfl rfl rfl rfl ⟨rfl, rfl, rfl, rfl, rfl⟩ rfl rfl rfl rfl rfl (by kernel_rfl) Try.func13 (by kernel_rfl)
    (of_decide_eq_true (by kernel_rfl)) (by unfold Func.isWrapper; first | (rw [if_pos (by decide +kernel)]; kernel_rfl) | (rw [if_neg (by decide +kernel)]; exact ⟨rfl, rfl⟩))
    (fun os started H enc _ => lifted_FnExactKnwHas os started H enc)

#print axioms fnExactKnwHas_holds
end Go.Proofs.Ytjdpabiodalfkaa
