/-
  Proved: at every texts and every text the program's KnwMake answers as the specification's KnwMake, and nothing that was there is written. No condition.
-/
import Derived.Test.YtjdpabiodalfkaaFrameS
import Derived.Test.YtjdpabiodalfkaaHelps
import Derived.Test.YtjdpabiodalfkaaIMake
namespace Go.Proofs.Ytjdpabiodalfkaa
open Go.ChangeShapes Go.WideShapes Go.ChangeAt Go.RowKit
open Go.ChangeMaps (open_string shut_string)
set_option linter.unusedVariables false

set_option maxRecDepth 100000 in
set_option maxHeartbeats 1000000 in
theorem walk_FnExactKnwMake (v : Value) (xs : List ByteArray) (s : ByteArray) (w : World) (h : SRow w v xs) (hx : ∀ x ∈ xs, x.size ≤ maxLen) (hs : s.size ≤ maxLen) :
    Calls Try.prog 11 #[v, .string s] w fun e w' => e = .returned (.bool true) ∧ Below w.heap.size w w' := by
  have HR := hide h
  have HX := hide hx
  have M := hide hs
  unfold maxLen at hs
  clear h hx
  by_cases h : (1048576 : Int) < (s.size : Int)
  · go_enter Try.func11, Try.ntmps11
    go_wp2_with fail
    go_ret
    exact ⟨rfl, Below.refl _ _⟩
  have h2 : decide ((1048576 : Int) < (s.size : Int)) = false := by simpa using h
  clear h
  go_enter Try.func11, Try.ntmps11
  go_wp2_with fail
  refine (szStringS_any v xs 1048576 _ (unhide HR) (unhide HX) (by omega) (by omega)).mono ?_
  rintro e w1 ⟨r, rfl, hr1, hr2, hb1⟩
  have HB1 := hide hb1
  have hle1 := hb1.size
  have hR2 := hide hr2
  clear hb1 hr2
  by_cases hneg : r < 0
  · go_wp2_with fail
    go_ret
    exact ⟨rfl, unhide HB1⟩
  have hneg2 : decide (r < 0) = false := by simpa using hneg
  have HL : Hid (xs.length ≤ 1048576) := by
    have := (hR2.out (by omega)).1
    show _ ≤ _
    omega
  clear hneg
  go_wp2_with fail
  refine (toStringS_any v xs _ (SRow.below (unhide HR) (unhide HB1)) HL.out).mono ?_
  rintro e w2 ⟨u, rfl, ho2, hb2⟩
  have HO2 := hide (own_srow ho2)
  have HB2 := hide ((unhide HB1).trans (hb2.mono hle1))
  have hle2 := HB2.out.size
  clear ho2 hb2
  go_wp2_with fail
  refine (sKnwMake_any u xs s _ (unhide HO2) (unhide HX) M.out).mono ?_
  rintro e w3 ⟨rfl, hb3⟩
  have HB3 := hide ((unhide HB2).trans (hb3.mono hle2))
  have hle3 := HB3.out.size
  clear hb3
  generalize hbv : (okAll xs && Kw.ok s && can xs s) = b
  have HBV := hide hbv
  clear hbv
  go_wp2_with fail
  refine (toStringS_any v xs _ (SRow.below (unhide HR) (unhide HB3)) HL.out).mono ?_
  rintro e w4 ⟨u2, rfl, ho4, hb4⟩
  have HO4 := hide (own_srow ho4)
  have HB4 := hide ((unhide HB3).trans (hb4.mono hle3))
  have hle4 := HB4.out.size
  clear ho4 hb4
  go_wp2_with fail
  refine (iKnwMake_any u2 xs s _ (unhide HO4) (unhide HX) M.out).mono ?_
  rw [HBV.out]
  rintro e w5 ⟨rfl, hb5⟩
  have HO5 := hide (SRow.below (unhide HO4) hb5)
  have HB5 := hide ((unhide HB4).trans (hb5.mono hle4))
  have hle5 := HB5.out.size
  clear hb5
  go_wp2_with fail
  refine (toStringS_any v xs _ (SRow.below (unhide HR) (unhide HB5)) HL.out).mono ?_
  rintro e w6 ⟨u3, rfl, ho6, hb6⟩
  have HO6 := hide (own_srow ho6)
  have HO56 := hide (SRow.below (unhide HO5) hb6)
  have HB6 := hide ((unhide HB5).trans (hb6.mono hle5))
  have hle6 := HB6.out.size
  clear ho6 hb6
  go_wp2_with fail
  refine (eqStringS_any u2 u3 xs xs _ (unhide HO56) (unhide HO6)).mono ?_
  rw [show decide (xs = xs) = true by simp]
  rintro e w7 ⟨rfl, hb7⟩
  go_wp2_with fail
  go_ret
  exact ⟨rfl, (unhide HB6).trans (hb7.mono hle6)⟩

set_option maxRecDepth 100000 in
theorem lifted_FnExactKnwMake (os : Os) (started : os.Started) (H : Type) (enc : TypeId × Value → H) :
    ReturnsInHanded {} Try.checked os 11 .any (Rows.fnExactKnwMakeSpec.pre6 enc Try.prog Try.f11 Rows.fnExactKnwMakeRow.domain false) (Rows.fnExactKnwMakeSpec.post enc Try.prog Try.f11 false true false false) := by
  refine returnsInHanded_of_change (C := Try.checked) own started (by kernel_rfl) Try.func11
    (ChangeSpec.witness6 (enc := enc) (C := Try.checked) false ⟨#[], #[.slice none 0 0, .string ByteArray.empty], []⟩ 8 (by kernel_rfl) (by kernel_rfl) (by kernel_rfl) (by kernel_rfl)) ?_
  intro W base args ds gs before hval0 hW hcnd _
  have hval : ∀ (j : Nat) t v, Try.f11.params[j]? = some t → args[j]? = some v → Value.okWide Try.prog W .any base t v := hval0
  have hW' := hW
  obtain ⟨p, q, hA0, hV, rfl, hfz, hnd⟩ := hW
  have hA : DataW.TrodAll enc Try.prog W 0 (fun _ => true) true Try.f11.params.toList args.toList ds p := hA0
  rw [Try.params11] at hA hval
  obtain ⟨v0, vs0, d0, ds0, p0, q0, hargs, rfl, rfl, h0, r0⟩ := trodAll_cons hA
  obtain ⟨v1, vs1, d1, ds1, p1, q1, rfl, rfl, rfl, h1, r1⟩ := trodAll_cons r0
  obtain ⟨rfl, rfl, rfl⟩ := trodAll_nil r1
  obtain rfl : args = #[v0, v1] := by cases args; simp_all
  obtain ⟨rfl, rfl⟩ := trodVars_none hV
  obtain ⟨a0, len0, cap0, rfl⟩ := okWide_slice Try.underlying23 (hval 0 23 v0 rfl rfl)
  have k0 := h0
  have lt0 : ∀ x ∈ p0, x.block < W.heap.size := by obtain ⟨m, hm⟩ := k0; exact DataW.trod_lt m _ _ _ hm
  obtain ⟨z0, w0, x0⟩ : ∃ zs, SRow W (.slice a0 len0 cap0) zs ∧ ∀ x ∈ zs, x.size ≤ maxLen := by
    obtain ⟨fuel, hf⟩ := h0
    exact open_srow hf
  obtain ⟨a1, rfl, rfl, rfl, w1⟩ := open_string Try.underlying9 (hval 1 9 v1 rfl rfl) h1
  clear hA0 hval0
  refine (walk_FnExactKnwMake (.slice a0 len0 cap0) z0 a1 W w0 x0 w1).mono fun e W' ⟨he, bel⟩ => ?_
  subst he
  exact ⟨_, rfl, _, _, _, [], _, [], hW', trodAll_mk1 (shut_bool Try.underlying4 _), (trodAll_cons_mk (Below.trod laidOut (by kernel_rfl) (of_decide_eq_true (by kernel_rfl)) k0 bel lt0) (trodAll_cons_mk (shut_string Try.underlying9 w1) trodAll_mk0)), rfl, bel.frame _, fun h => by cases h⟩

theorem fnExactKnwMake_holds : Rows.FnExactKnwMakeSaid :=
  OpenClaim.holds_of_wide 11 Try.f11 rfl rfl rfl rfl rfl rfl rfl ⟨rfl, rfl, rfl, rfl, rfl⟩ rfl rfl rfl rfl rfl (by kernel_rfl) Try.func11 (by kernel_rfl)
    (of_decide_eq_true (by kernel_rfl)) (by unfold Func.isWrapper; first | (rw [if_pos (by decide +kernel)]; kernel_rfl) | (rw [if_neg (by decide +kernel)]; exact ⟨rfl, rfl⟩))
    (fun os started H enc _ => lifted_FnExactKnwMake os started H enc)

#print axioms fnExactKnwMake_holds
end Go.Proofs.Ytjdpabiodalfkaa
