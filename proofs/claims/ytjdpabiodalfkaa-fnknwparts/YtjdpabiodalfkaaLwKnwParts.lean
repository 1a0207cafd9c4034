/-
  Proved: of every code: if a secret that is not known can be made from some, so can all from which it was made, and it was not made anew. No condition.
-/
import Derived.Test.YtjdpabiodalfkaaFrame
import Derived.Test.YtjdpabiodalfkaaDrawK
import Derived.Test.YtjdpabiodalfkaaKeHas
import Derived.Test.YtjdpabiodalfkaaIMake
namespace Go.Proofs.Ytjdpabiodalfkaa
open Go.ChangeShapes Go.WideShapes Go.ChangeAt Go.RowKit
open Go.ChangeMaps (open_string shut_string)
set_option linter.unusedVariables false

theorem small_max {xs : List ByteArray} (h : small 700 xs) : ∀ x ∈ xs, x.size ≤ maxLen := fun x hx => by
  have := h x hx
  unfold maxLen; omega

theorem part_can {xs : List ByteArray} {s p : ByteArray} (ho : okAll xs = true) (hp : Kw.ok p = true) (hc : can xs p = true) : (okAll xs && Kw.ok p && can xs p) = true := by rw [ho, hp, hc]; rfl

theorem ok_max {s : ByteArray} (h : Kw.ok s = true) : s.size ≤ maxLen := by
  have := (ok_facts h).1
  unfold maxLen; omega

set_option maxRecDepth 100000 in
set_option maxHeartbeats 2000000 in
theorem walk_FnKnwParts (a0 : Option Addr) (len cap : Nat) (zs : List Int) (w : World) (h : IsRow .u8 w a0 len cap zs) :
    Calls Try.prog 10 #[.slice a0 len cap] w fun e w' => e = .returned (.bool true) ∧ Below w.heap.size w w' := by
  have hlm : len ≤ 9223372036854775807 := by
    rcases h with ⟨_, rfl, _⟩ | ⟨x, _, h1, h2, _⟩
    · omega
    · unfold maxLen at h2; omega
  have HR := hide h
  clear h
  by_cases hb : (1048576 : Int) < (len : Int)
  · go_enter Try.func10, Try.ntmps10
    go_wp2_with fail
    go_ret
    exact ⟨rfl, Below.refl _ _⟩
  have hb2 : decide ((1048576 : Int) < (len : Int)) = false := by simpa using hb
  clear hb
  go_enter Try.func10, Try.ntmps10
  go_wp2_with fail
  refine (DrawKnwMake_any a0 len cap zs _ (unhide HR)).mono ?_
  rintro e w1 ⟨v, xs, s, rfl, hO, hl, hsm, hs, hb1⟩
  have HB1 := hide hb1
  have hle1 := hb1.size
  have HO1 := hide hO.srow
  have HX := hide (small_max hsm)
  have M : Hid (s.size ≤ maxLen) := by show s.size ≤ maxLen; unfold maxLen; omega
  obtain ⟨ao, vc, hv⟩ := row_form' hO
  subst hv
  clear hb1 hO hsm
  go_wp2_with fail
  refine (iKnwMake_any _ xs s _ (unhide HO1) (unhide HX) M.out).mono ?_
  rintro e w2 ⟨rfl, hb2'⟩
  have HO2 := hide (SRow.below (unhide HO1) hb2')
  have HB2 := hide ((unhide HB1).trans (hb2'.mono hle1))
  have hle2 := HB2.out.size
  clear hb2'
  generalize hbv : (okAll xs && Kw.ok s && can xs s) = b
  have HBV := hide hbv
  clear hbv
  go_wp2_with fail
  refine (sKnwMake_any _ xs s _ (unhide HO2) (unhide HX) M.out).mono ?_
  rw [HBV.out]
  rintro e w3 ⟨rfl, hb3⟩
  have HO3 := hide (SRow.below (unhide HO2) hb3)
  have HB3 := hide ((unhide HB2).trans (hb3.mono hle2))
  have hle3 := HB3.out.size
  clear hb3
  cases b with
  | false =>
    go_wp2_with fail
    refine (keOk_any _).mono ?_
    rintro e w7 ⟨rfl, hb7⟩
    go_wp2_with fail
    go_ret
    exact ⟨rfl, (unhide HB3).trans (hb7.mono hle3)⟩
  | true =>
    go_wp2_with fail
    refine (keHas_any _ xs s _ (unhide HO3)).mono ?_
    cases hh : has xs s with
    | true =>
      rintro e w4 ⟨rfl, hb4⟩
      have HB4 := hide ((unhide HB3).trans (hb4.mono hle3))
      have hle4 := HB4.out.size
      clear hb4 hh
      go_wp2_with fail
      refine (keOk_any _).mono ?_
      rintro e w7 ⟨rfl, hb7⟩
      go_wp2_with fail
      go_ret
      exact ⟨rfl, (unhide HB4).trans (hb7.mono hle4)⟩
    | false =>
      rintro e w4 ⟨rfl, hb4⟩
      have HO4 := hide (SRow.below (unhide HO3) hb4)
      have HB4 := hide ((unhide HB3).trans (hb4.mono hle3))
      have hle4 := HB4.out.size
      have HH := hide hh
      clear hb4 hh
      have hparts : okAll xs = true ∧ Kw.ok s = true ∧ can xs s = true := by
        have := HBV.out
        simp only [Bool.and_eq_true] at this
        exact ⟨this.1.1, this.1.2, this.2⟩
      obtain ⟨ho, hk, hc⟩ := hparts
      have HK := hide hk
      have HC := hide hc
      have HOK := hide ho
      clear hk hc ho
      go_wp2_with fail
      refine (iSecMade_any s _ M.out).mono ?_
      rintro e w5 ⟨rfl, hb5⟩
      rw [how_cells8]
      have HO5 := hide (SRow.below (unhide HO4) hb5)
      have HB5 := hide ((unhide HB4).trans (hb5.mono hle4))
      have hle5 := HB5.out.size
      clear hb5
      rcases parts_kn HK.out with ⟨q1, q2, q3⟩ | ⟨q1, q2, q3, q4, q5⟩ | ⟨q1, q2, q3, q4, q5⟩
      · exfalso
        have := HC.out
        rw [can_new HH.out q1] at this
        cases this
      · have ca : Hid ((okAll xs && Kw.ok (mA s) && can xs (mA s)) = true) := by
          have := HC.out
          rw [can_one HH.out HK.out q1 q2] at this
          show _ = _
          rw [HOK.out, q3, this]; rfl
        have MA := hide (ok_max q3)
        have hop : ¬ mOp s = 1 := q1
        have hop2 : (mOp s != 1) = true := by simpa using q1
        have hop3 : (!decide (mOp s = 1)) = true := by simpa using q1
        have hop4 : (!mOp s == 1) = true := by simpa using q1
        generalize mOp s = op at hop hop2 hop3 hop4 ⊢
        rw [q5]
        clear q1 q2 q3 q4 q5
        generalize mA s = p at ca MA ⊢
        go_wp2_with fail
        have HBA : Hid (Below w5.heap.size w5 (w5.alloc (.cells #[.int .i64 op, .int .i64 (mWho s), .int .i64 (mN s), .string p, .string ⟨#[]⟩] 48))) := (Below.refl _ _).alloc (Nat.le_refl _) _
        refine (iKnwMake_any _ xs p _ (SRow.below (unhide HO5) (unhide HBA)) (unhide HX) MA.out).mono ?_
        rw [ca.out]
        rintro e w6 ⟨rfl, hb6⟩
        have c4 := keep1 (b := w5.heap.size) (o := 4) (v := .string ⟨#[]⟩) hb6 (by simp [go_sem]) (by simp)
        have HB6 := hide ((unhide HB5).trans (((unhide HBA).trans (hb6.mono (by simp))).mono hle5))
        clear hb6
        go_wp2_with fail
        go_ret
        exact ⟨rfl, unhide HB6⟩
      · have hcan : can xs (mA s) = true ∧ can xs (mB s) = true := by
          have := HC.out
          rw [can_two HH.out HK.out q1, Bool.and_eq_true] at this
          exact this
        have ca : Hid ((okAll xs && Kw.ok (mA s) && can xs (mA s)) = true) := by
          show _ = _
          rw [HOK.out, q2, hcan.1]; rfl
        have cb : Hid ((okAll xs && Kw.ok (mB s) && can xs (mB s)) = true) := by
          show _ = _
          rw [HOK.out, q3, hcan.2]; rfl
        have MA := hide (ok_max q2)
        have MB := hide (ok_max q3)
        rw [q1]
        have hne := not_empty q5
        clear q1 q2 q3 q4 q5 hcan
        generalize mA s = p at ca MA ⊢
        generalize mB s = r at cb MB hne ⊢
        go_wp2_with fail
        have HBA : Hid (Below w5.heap.size w5 (w5.alloc (.cells #[.int .i64 4, .int .i64 (mWho s), .int .i64 (mN s), .string p, .string r] 48))) := (Below.refl _ _).alloc (Nat.le_refl _) _
        refine (iKnwMake_any _ xs p _ (SRow.below (unhide HO5) (unhide HBA)) (unhide HX) MA.out).mono ?_
        rw [ca.out]
        rintro e w6 ⟨rfl, hb6⟩
        have c4 := keep1 (b := w5.heap.size) (o := 4) (v := .string r) hb6 (by simp [go_sem]) (by simp)
        have HO6 := hide (SRow.below (SRow.below (unhide HO5) (unhide HBA)) hb6)
        have HB6 := hide ((unhide HB5).trans (((unhide HBA).trans (hb6.mono (by simp))).mono hle5))
        have hle6 := HB6.out.size
        clear hb6
        go_wp2_with fail
        refine (iKnwMake_any _ xs r _ (unhide HO6) (unhide HX) MB.out).mono ?_
        rw [cb.out]
        rintro e w7 ⟨rfl, hb7⟩
        have HB7 := hide ((unhide HB6).trans (hb7.mono hle6))
        clear hb7
        go_wp2_with fail
        go_ret
        exact ⟨rfl, unhide HB7⟩

set_option maxRecDepth 100000 in
theorem lifted_FnKnwParts (os : Os) (started : os.Started) (H : Type) (enc : TypeId × Value → H) :
    ReturnsInHanded {} Try.checked os 10 .any (Rows.fnKnwPartsSpec.pre6 enc Try.prog Try.f10 Rows.fnKnwPartsRow.domain false) (Rows.fnKnwPartsSpec.post enc Try.prog Try.f10 false true false false) := by
  refine returnsInHanded_of_change (C := Try.checked) own started (by kernel_rfl) Try.func10
    (ChangeSpec.witness6 (enc := enc) (C := Try.checked) false ⟨#[], #[.slice none 0 0], []⟩ 8 (by kernel_rfl) (by kernel_rfl) (by kernel_rfl) (by kernel_rfl)) ?_
  intro W base args ds gs before hval0 hW hcnd _
  have hval : ∀ (j : Nat) t v, Try.f10.params[j]? = some t → args[j]? = some v → Value.okWide Try.prog W .any base t v := hval0
  have hW' := hW
  obtain ⟨p, q, hA0, hV, rfl, hfz, hnd⟩ := hW
  have hA : DataW.TrodAll enc Try.prog W 0 (fun _ => true) true Try.f10.params.toList args.toList ds p := hA0
  rw [Try.params10] at hA hval
  obtain ⟨v0, vs0, d0, ds0, p0, q0, hargs, rfl, rfl, h0, r0⟩ := trodAll_cons hA
  obtain ⟨rfl, rfl, rfl⟩ := trodAll_nil r0
  obtain rfl : args = #[v0] := by cases args; simp_all
  obtain ⟨rfl, rfl⟩ := trodVars_none hV
  obtain ⟨a0, len0, cap0, rfl⟩ := okWide_slice Try.underlying22 (hval 0 22 v0 rfl rfl)
  have k0 := h0
  have lt0 : ∀ x ∈ p0, x.block < W.heap.size := by obtain ⟨m, hm⟩ := k0; exact DataW.trod_lt m _ _ _ hm
  obtain ⟨z0, w0⟩ : ∃ zs, IsRow .u8 W a0 len0 cap0 zs := by
    obtain ⟨fuel, hf⟩ := h0
    rcases open_ints Try.underlying22 Try.underlying5 (by kernel_rfl) hf with ⟨hcs, _⟩ | ⟨x, l, c, zs, hcs, _, hl, hm, hz, _, hcell, hwz⟩
    · simp [Value.cells] at hcs
      obtain ⟨rfl, rfl, rfl⟩ := hcs
      exact ⟨[], .inl ⟨rfl, rfl, rfl, rfl⟩⟩
    · simp [Value.cells] at hcs
      obtain ⟨rfl, rfl, rfl⟩ := hcs
      exact ⟨zs, .inr ⟨_, rfl, hl, hm, by simpa using hz, hcell, hwz⟩⟩
  clear hA0 hval0
  refine (walk_FnKnwParts a0 len0 cap0 z0 W w0).mono fun e W' ⟨he, bel⟩ => ?_
  subst he
  exact ⟨_, rfl, _, _, _, [], _, [], hW', trodAll_mk1 (shut_bool Try.underlying4 _), (trodAll_cons_mk (Below.trod laidOut (by kernel_rfl) (of_decide_eq_true (by kernel_rfl)) k0 bel lt0) trodAll_mk0), rfl, bel.frame _, fun h => by cases h⟩

theorem fnKnwParts_holds : Rows.FnKnwPartsSaid :=
  OpenClaim.holds_of_wide 10 Try.f10 rfl rfl rfl rfl rfl rfl rfl ⟨rfl, rfl, rfl, rfl, rfl⟩ rfl rfl rfl rfl rfl (by kernel_rfl) Try.func10 (by kernel_rfl)
    (of_decide_eq_true (by kernel_rfl)) (by unfold Func.isWrapper; first | (rw [if_pos (by decide +kernel)]; kernel_rfl) | (rw [if_neg (by decide +kernel)]; exact ⟨rfl, rfl⟩))
    (fun os started H enc _ => lifted_FnKnwParts os started H enc)

#print axioms fnKnwParts_holds
end Go.Proofs.Ytjdpabiodalfkaa
