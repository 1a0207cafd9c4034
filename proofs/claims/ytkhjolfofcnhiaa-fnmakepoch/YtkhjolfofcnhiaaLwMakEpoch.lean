/-
  Proved: at every code the law FnMakEpoch returns true (MakEpoch of two secrets is a name, if it is not too long, made from just these two, in this order), and nothing that was there is written. No condition.
-/
import Derived.Test.YtkhjolfofcnhiaaFrame
import Derived.Test.YtkhjolfofcnhiaaMade2
import Derived.Test.YtkhjolfofcnhiaaMade3
import Derived.Test.YtkhjolfofcnhiaaDraw4
namespace Go.Proofs.Ytkhjolfofcnhiaa
open Go.ChangeShapes Go.WideShapes Go.ChangeAt Go.RowKit
open Go.ChangeMaps (open_string shut_string)
set_option linter.unusedVariables false

theorem how_cells4 (op who n : Int) (a b : ByteArray) : howV op who n a b = .agg #[.int .i64 op, .int .i64 who, .int .i64 n, .string a, .string b] := rfl

set_option maxRecDepth 100000 in
set_option maxHeartbeats 4000000 in
theorem walk_FnMakEpoch (a0 : Option Addr) (len0 cap0 : Nat) (z0 : List Int) (w : World) (w0 : IsRow .u8 w a0 len0 cap0 z0) :
    Calls Try.prog 6 #[.slice a0 len0 cap0] w fun e w' => e = .returned (.bool true) ∧ Below w.heap.size w w' := by
  have hR := hide w0
  clear w0
  by_cases h : (1048576 : Int) < (len0 : Int)
  · go_enter Try.func6, Try.ntmps6
    go_wp2_with fail
    go_ret
    exact ⟨rfl, Below.refl _ _⟩
  have h2 : decide ((1048576 : Int) < (len0 : Int)) = false := by simpa using h
  clear h
  go_enter Try.func6, Try.ntmps6
  go_wp2_with fail
  refine (DrawMakEpoch_any a0 len0 cap0 z0 _ (unhide hR)).mono ?_
  rintro e w1 ⟨a, b, rfl, ha, hb, hb1⟩
  have M : Hid (a.size ≤ maxLen) := le_maxLen (by omega)
  have N : Hid (b.size ≤ maxLen) := le_maxLen (by omega)
  have HB1 := hide hb1
  have hle1 := hb1.size
  clear hb1
  by_cases hbad : Kw.ok a = false ∨ Kw.ok b = false ∨ 300 ≤ a.size + b.size
  · have hE : Hid (mkEpoch a b = ⟨#[]⟩) := epoch_bad hbad
    have HBAD := hide hbad
    clear hbad
    go_wp2_with fail
    refine (iMakEpoch_any a b _ M.out N.out).mono ?_
    rw [hE.out]
    rintro e w2 ⟨rfl, hb2⟩
    have HB2 := hide ((unhide HB1).trans (hb2.mono hle1))
    have hle2 := HB2.out.size
    clear hb2
    go_wp2_with fail
    refine (sMakEpoch_any a b _ M.out N.out).mono ?_
    rw [hE.out]
    rintro e w3 ⟨rfl, hb3⟩
    have HB3 := hide ((unhide HB2).trans (hb3.mono hle2))
    have hle3 := HB3.out.size
    clear hb3
    go_wp2_with fail
    refine (sSecOk_any a _ M.out).mono ?_
    cases hka : Kw.ok a with
    | false =>
      rintro e w4 ⟨rfl, hb4⟩
      have HB4 := hide ((unhide HB3).trans (hb4.mono hle3))
      have hle4 := HB4.out.size
      clear hb4 hka
      go_wp2_with fail
      refine (keOk_any _).mono ?_
      rintro e w5 ⟨rfl, hb5⟩
      go_wp2_with fail
      go_ret
      exact ⟨rfl, (unhide HB4).trans (hb5.mono hle4)⟩
    | true =>
      rintro e w4 ⟨rfl, hb4⟩
      have HB4 := hide ((unhide HB3).trans (hb4.mono hle3))
      have hle4 := HB4.out.size
      have HKA := hide hka
      clear hb4 hka
      go_wp2_with fail
      refine (sSecOk_any b _ N.out).mono ?_
      cases hkb : Kw.ok b with
      | false =>
        rintro e w5 ⟨rfl, hb5⟩
        have HB5 := hide ((unhide HB4).trans (hb5.mono hle4))
        have hle5 := HB5.out.size
        clear hb5 hkb
        go_wp2_with fail
        refine (keOk_any _).mono ?_
        rintro e w6 ⟨rfl, hb6⟩
        go_wp2_with fail
        go_ret
        exact ⟨rfl, (unhide HB5).trans (hb6.mono hle5)⟩
      | true =>
        rintro e w5 ⟨rfl, hb5⟩
        have HB5 := hide ((unhide HB4).trans (hb5.mono hle4))
        have hle5 := HB5.out.size
        have hsz : (300 : Int) ≤ (a.size : Int) + (b.size : Int) := by
          rcases HBAD.out with q | q | q
          · rw [HKA.out] at q; cases q
          · rw [hkb] at q; cases q
          · omega
        clear hb5 hkb
        go_wp2_with fail
        refine (keOk_any _).mono ?_
        rintro e w6 ⟨rfl, hb6⟩
        go_wp2_with fail
        go_ret
        exact ⟨rfl, (unhide HB5).trans (hb6.mono hle5)⟩
  · have hka : Kw.ok a = true := by cases q : Kw.ok a with | true => rfl | false => exact absurd (.inl q) hbad
    have hkb : Kw.ok b = true := by cases q : Kw.ok b with | true => rfl | false => exact absurd (.inr (.inl q)) hbad
    have hsz : a.size + b.size < 300 := by omega
    have hE : Hid (mkEpoch a b = epochT a b) := epoch_good hka hkb hsz
    obtain ⟨t0, t1, t2, t3, t4, t5⟩ := made_epoch hka hkb hsz
    have T := hide (And.intro t1 (And.intro t2 (And.intro t3 (And.intro t4 t5))))
    have hz := epoch_size a b
    have MS : Hid ((epochT a b).size ≤ maxLen) := le_maxLen (by omega)
    have hsw := hide (epoch_swap hka hkb hsz)
    have HKA := hide hka
    have HKB := hide hkb
    have hszd : decide ((300 : Int) ≤ (a.size : Int) + (b.size : Int)) = false := by simp; omega
    clear hbad hka hkb t0 t1 t2 t3 t4 t5 hz
    go_wp2_with fail
    refine (iMakEpoch_any a b _ M.out N.out).mono ?_
    rw [hE.out]
    rintro e w2 ⟨rfl, hb2⟩
    have HB2 := hide ((unhide HB1).trans (hb2.mono hle1))
    have hle2 := HB2.out.size
    clear hb2
    go_wp2_with fail
    refine (sMakEpoch_any a b _ M.out N.out).mono ?_
    rw [hE.out]
    rintro e w3 ⟨rfl, hb3⟩
    have HB3 := hide ((unhide HB2).trans (hb3.mono hle2))
    have hle3 := HB3.out.size
    clear hb3
    go_wp2_with fail
    refine (sSecOk_any a _ M.out).mono ?_
    rw [HKA.out]
    rintro e w4 ⟨rfl, hb4⟩
    have HB4 := hide ((unhide HB3).trans (hb4.mono hle3))
    have hle4 := HB4.out.size
    clear hb4
    go_wp2_with fail
    refine (sSecOk_any b _ N.out).mono ?_
    rw [HKB.out]
    rintro e w5 ⟨rfl, hb5⟩
    have HB5 := hide ((unhide HB4).trans (hb5.mono hle4))
    have hle5 := HB5.out.size
    clear hb5
    go_wp2_with fail
    refine (iSecMade_any (epochT a b) _ MS.out).mono ?_
    rw [T.out.1, T.out.2.1, T.out.2.2.1, T.out.2.2.2.1, T.out.2.2.2.2, how_cells4]
    rintro e w6 ⟨rfl, hb6⟩
    have HB6 := hide ((unhide HB5).trans (hb6.mono hle5))
    have hle6 := HB6.out.size
    clear hb6
    go_wp2_with fail
    refine (iMakEpoch_any b a _ N.out M.out).mono ?_
    rintro e w7 ⟨rfl, hb7⟩
    go_wp2_with fail
    go_ret
    exact ⟨ret_bool (beq_beq hsw.out), (unhide HB6).trans (hb7.mono hle6)⟩

set_option maxRecDepth 100000 in
theorem lifted_FnMakEpoch (os : Os) (started : os.Started) (H : Type) (enc : TypeId × Value → H) :
    ReturnsInHanded {} Try.checked os 6 .any (Rows.fnMakEpochSpec.pre6 enc Try.prog Try.f6 Rows.fnMakEpochRow.domain false) (Rows.fnMakEpochSpec.post enc Try.prog Try.f6 false true false false) := by
  refine returnsInHanded_of_change (C := Try.checked) own started (by kernel_rfl) Try.func6
    (ChangeSpec.witness6 (enc := enc) (C := Try.checked) false ⟨#[], #[.slice none 0 0], []⟩ 8 (by kernel_rfl) (by kernel_rfl) (by kernel_rfl) (by kernel_rfl)) ?_
  intro W base args ds gs before hval0 hW hcnd _
  have hval : ∀ (j : Nat) t v, Try.f6.params[j]? = some t → args[j]? = some v → Value.okWide Try.prog W .any base t v := hval0
  have hW' := hW
  obtain ⟨p, q, hA0, hV, rfl, hfz, hnd⟩ := hW
  have hA : DataW.TrodAll enc Try.prog W 0 (fun _ => true) true Try.f6.params.toList args.toList ds p := hA0
  rw [Try.params6] at hA hval
  obtain ⟨v0, vs0, d0, ds0, p0, q0, hargs, rfl, rfl, h0, r0⟩ := trodAll_cons hA
  obtain ⟨rfl, rfl, rfl⟩ := trodAll_nil r0
  obtain rfl : args = #[v0] := by cases args; simp_all
  obtain ⟨rfl, rfl⟩ := trodVars_none hV
  obtain ⟨a0, len0, cap0, rfl⟩ := okWide_slice Try.underlying22 (hval 0 22 v0 rfl rfl)
  have k0 := h0
  have lt0 : ∀ x ∈ p0, x.block < W.heap.size := by obtain ⟨m, hm⟩ := k0; exact DataW.trod_lt m _ _ _ hm
  obtain ⟨z0, w0⟩ : ∃ zs, IsRow .u8 W a0 len0 cap0 zs := by
    obtain ⟨fuel, hf⟩ := h0
    rcases open_ints Try.underlying22 Try.underlying5 (by kernel_rfl) hf with ⟨hcs, _⟩ | ⟨x, l, c, zs, hcs, _, hl, hm, hz, _, hcell, hwz⟩
    · simp [Value.cells] at hcs
      obtain ⟨rfl, rfl, rfl⟩ := hcs
      exact ⟨[], .inl ⟨rfl, rfl, rfl, rfl⟩⟩
    · simp [Value.cells] at hcs
      obtain ⟨rfl, rfl, rfl⟩ := hcs
      exact ⟨zs, .inr ⟨_, rfl, hl, hm, by simpa using hz, hcell, hwz⟩⟩
  clear hA0 hval0
  refine (walk_FnMakEpoch a0 len0 cap0 z0 W w0).mono fun e W' ⟨he, bel⟩ => ?_
  subst he
  exact ⟨_, rfl, _, _, _, [], _, [], hW', trodAll_mk1 (shut_bool Try.underlying4 _), (trodAll_cons_mk (Below.trod laidOut (by kernel_rfl) (of_decide_eq_true (by kernel_rfl)) k0 bel lt0) trodAll_mk0), rfl, bel.frame _, fun h => by cases h⟩

theorem fnMakEpoch_holds : Rows.FnMakEpochSaid :=
  OpenClaim.holds_of_wide 6 Try.f6 rfl rfl rfl rfl rfl rfl rfl ⟨rfl, rfl, rfl, rfl, rfl⟩ rfl rfl rfl rfl rfl (by kernel_rfl) Try.func6 (by kernel_rfl)
    (of_decide_eq_true (by kernel_rfl)) (by unfold Func.isWrapper; first | (rw [if_pos (by decide +kernel)]; kernel_rfl) | (rw [if_neg (by decide +kernel)]; exact ⟨rfl, rfl⟩))
    (fun os started H enc _ => lifted_FnMakEpoch os started H enc)

#print axioms fnMakEpoch_holds
end Go.Proofs.Ytkhjolfofcnhiaa
