/-
  Proved: at every code the law FnFraOk returns true (of a frame that is ok the key is made for who says it; and with another one who says it, it is not ok), and nothing that was there is written. No condition.
-/
import Derived.Test.YtgdhlnfigcaepaaFnFraOkB1
import Derived.Test.YtgdhlnfigcaepaaFnFraOkB5
import Derived.Test.YtgdhlnfigcaepaaFnFraOkB6
import Derived.Test.YtgdhlnfigcaepaaFnFraOkB7
namespace Go.Proofs.Ytgdhlnfigcaepaa
open Go.ChangeShapes Go.WideShapes Go.ChangeAt Go.RowKit
open Go.ChangeMaps (open_string shut_string)
set_option linter.unusedVariables false

theorem fraOk_other {fr n : Int} {key text : ByteArray} (h : fraOk ⟨fr, key, n, text⟩ = true) : (0 ≤ fr ∧ fr ≤ 7) ∧ mOp key = 5 ∧ mWho key = fr ∧ fraOk ⟨(fr + 1) % 8, key, n, text⟩ = false := by
  rw [fraOk_impl] at h ⊢
  unfold inB at h
  simp at h
  obtain ⟨h1, h2, h3, _⟩ := h
  refine ⟨h1, h2, h3, ?_⟩
  simp
  intro _ _ q
  omega

set_option maxRecDepth 100000 in
set_option maxHeartbeats 1000000 in
theorem walk_FnFraOk (a0 : Option Addr) (len0 cap0 : Nat) (z0 : List Int) (w : World) (w0 : IsRow .u8 w a0 len0 cap0 z0) :
    Calls Try.prog 8 #[.slice a0 len0 cap0] w fun e w' => e = .returned (.bool true) ∧ Below w.heap.size w w' := by
  have hR := hide w0
  clear w0
  by_cases h : (1048576 : Int) < (len0 : Int)
  · go_enter Try.func8, Try.ntmps8
    go_wp2_with fail
    go_ret
    exact ⟨rfl, Below.refl _ _⟩
  have h2 : decide ((1048576 : Int) < (len0 : Int)) = false := by simpa using h
  clear h
  go_enter Try.func8, Try.ntmps8
  go_wp2_with fail
  refine (DrawFraOk_any a0 len0 cap0 z0 _ (unhide hR)).mono ?_
  rintro e w1 ⟨⟨fr, key, n, text⟩, rfl, hk, _, hb1⟩
  have M : Hid (key.size ≤ maxLen) := le_maxLen (by simp only at hk; omega)
  have A := hide (Blk.new w1 27 (fraC fr key n text))
  have HBS := hb1.size
  have HB := hide (hb1.alloc HBS (.cells (fraC fr key n text) 27))
  clear hb1 hk HBS
  go_wp2_with fail
  generalize w1.alloc (.cells (fraC fr key n text) 27) = W1 at *
  refine (iFraOk_any ⟨fr, key, n, text⟩ _ M.out).mono ?_
  rintro e w2 ⟨rfl, hb⟩
  replace A := hide ((unhide A).below hb)
  replace HB := hide (HB.out.trans (hb.mono HB.out.size))
  clear hb
  have c0 := (unhide A).cell 0
  have c1 := (unhide A).cell 1
  have c2 := (unhide A).cell 2
  have c3 := (unhide A).cell 3
  simp only [List.getElem?_toArray, List.getElem?_cons_zero, List.getElem?_cons_succ] at c0 c1 c2 c3
  go_wp2_with fail
  refine (sFraOk_any ⟨fr, key, n, text⟩ _ M.out).mono ?_
  rintro e w3 ⟨rfl, hb⟩
  replace A := hide ((unhide A).below hb)
  replace HB := hide (HB.out.trans (hb.mono HB.out.size))
  clear hb c0 c1 c2 c3
  cases hr : fraOk ⟨fr, key, n, text⟩ with
  | false =>
    clear hr
    go_wp2_with fail
    refine (keOk_any _).mono ?_
    rintro e w4 ⟨rfl, hb⟩
    replace HB := hide (HB.out.trans (hb.mono HB.out.size))
    clear hb
    go_wp2_with fail
    go_ret
    exact ⟨rfl, unhide HB⟩
  | true =>
    obtain ⟨hf, h5, hw, hno⟩ := fraOk_other hr
    have HNO := hide hno
    have i1 : IntKind.i64.wrap (fr + 1) = fr + 1 := by simp [IntKind.wrap, IntKind.bits, IntKind.signed]; omega
    have i2 : (fr + 1).tmod 8 = (fr + 1) % 8 := Int.tmod_eq_emod_of_nonneg (by omega)
    have i3 : IntKind.i64.wrap ((fr + 1) % 8) = (fr + 1) % 8 := by simp [IntKind.wrap, IntKind.bits, IntKind.signed]; omega
    have H5 : Hid (mOp key = 5 ∧ mWho key = fr) := ⟨h5, hw⟩
    clear hr hno hf h5 hw
    have c0 := (unhide A).cell 0
    have c1 := (unhide A).cell 1
    have c2 := (unhide A).cell 2
    have c3 := (unhide A).cell 3
    simp only [List.getElem?_toArray, List.getElem?_cons_zero, List.getElem?_cons_succ] at c0 c1 c2 c3
    have G := hide (Blk.new w3 27 (fraC ((fr + 1) % 8) key n text))
    have HBS := HB.out.size
    have A2 := hide ((unhide A).alloc (.cells (fraC ((fr + 1) % 8) key n text) 27))
    have d0 := ((unhide A).alloc (.cells (fraC fr key n text) 27)).cell 0
    have d1 := (unhide A2).cell 1
    simp only [List.getElem?_toArray, List.getElem?_cons_zero, List.getElem?_cons_succ] at d0 d1
    replace HB := hide (HB.out.alloc HBS (.cells (fraC ((fr + 1) % 8) key n text) 27))
    go_wp2_with fail
    refine (iSecMade_any key _ M.out).mono ?_
    rw [how_field, H5.out.1, H5.out.2]
    rintro e w4 ⟨rfl, hb⟩
    replace A := hide ((unhide A2).below hb)
    replace G := hide ((unhide G).below hb)
    replace HB := hide (HB.out.trans (hb.mono HB.out.size))
    clear hb c0 c1 c2 c3 d0 d1 A2 HBS i1 i2 i3
    have H := hide (Blk.new w4 49 #[.int .i64 5, .int .i64 fr, .int .i64 (mN key), .string (mA key), .string (mB key)])
    have HBS := HB.out.size
    replace HB := hide (HB.out.alloc HBS (.cells #[.int .i64 5, .int .i64 fr, .int .i64 (mN key), .string (mA key), .string (mB key)] 49))
    have a0 := ((unhide A).alloc (.cells #[.int .i64 5, .int .i64 fr, .int .i64 (mN key), .string (mA key), .string (mB key)] 49)).cell 0
    have G2 := (unhide G).alloc (.cells #[.int .i64 5, .int .i64 fr, .int .i64 (mN key), .string (mA key), .string (mB key)] 49)
    have g0 := G2.cell 0
    have g1 := G2.cell 1
    have g2 := G2.cell 2
    have g3 := G2.cell 3
    simp only [List.getElem?_toArray, List.getElem?_cons_zero, List.getElem?_cons_succ] at a0 g0 g1 g2 g3
    clear G2
    go_wp2_with fail
    refine (iFraOk_any ⟨(fr + 1) % 8, key, n, text⟩ _ M.out).mono ?_
    rw [HNO.out]
    rintro e w5 ⟨rfl, hb⟩
    replace HB := hide (HB.out.trans (hb.mono HB.out.size))
    clear hb
    go_wp2_with fail
    go_ret
    exact ⟨rfl, unhide HB⟩

set_option maxRecDepth 100000 in
theorem lifted_FnFraOk (os : Os) (started : os.Started) (H : Type) (enc : TypeId × Value → H) :
    ReturnsInHanded {} Try.checked os 8 .any (Rows.fnFraOkSpec.pre6 enc Try.prog Try.f8 Rows.fnFraOkRow.domain false) (Rows.fnFraOkSpec.post enc Try.prog Try.f8 false true false false) := by
  refine returnsInHanded_of_change (C := Try.checked) own started (by kernel_rfl) Try.func8
    (ChangeSpec.witness6 (enc := enc) (C := Try.checked) false ⟨#[], #[.slice none 0 0], []⟩ 8 (by kernel_rfl) (by kernel_rfl) (by kernel_rfl) (by kernel_rfl)) ?_
  intro W base args ds gs before hval0 hW hcnd _
  have hval : ∀ (j : Nat) t v, Try.f8.params[j]? = some t → args[j]? = some v → Value.okWide Try.prog W .any base t v := hval0
  have hW' := hW
  obtain ⟨p, q, hA0, hV, rfl, hfz, hnd⟩ := hW
  have hA : DataW.TrodAll enc Try.prog W 0 (fun _ => true) true Try.f8.params.toList args.toList ds p := hA0
  rw [Try.params8] at hA hval
  obtain ⟨v0, vs0, d0, ds0, p0, q0, hargs, rfl, rfl, h0, r0⟩ := trodAll_cons hA
  obtain ⟨rfl, rfl, rfl⟩ := trodAll_nil r0
  obtain rfl : args = #[v0] := by cases args; simp_all
  obtain ⟨rfl, rfl⟩ := trodVars_none hV
  obtain ⟨a0, len0, cap0, rfl⟩ := okWide_slice Try.underlying43 (hval 0 43 v0 rfl rfl)
  have k0 := h0
  have lt0 : ∀ x ∈ p0, x.block < W.heap.size := by obtain ⟨m, hm⟩ := k0; exact DataW.trod_lt m _ _ _ hm
  obtain ⟨z0, w0⟩ : ∃ zs, IsRow .u8 W a0 len0 cap0 zs := by
    obtain ⟨fuel, hf⟩ := h0
    rcases open_ints Try.underlying43 Try.underlying5 (by kernel_rfl) hf with ⟨hcs, _⟩ | ⟨x, l, c, zs, hcs, _, hl, hm, hz, _, hcell, hwz⟩
    · simp [Value.cells] at hcs
      obtain ⟨rfl, rfl, rfl⟩ := hcs
      exact ⟨[], .inl ⟨rfl, rfl, rfl, rfl⟩⟩
    · simp [Value.cells] at hcs
      obtain ⟨rfl, rfl, rfl⟩ := hcs
      exact ⟨zs, .inr ⟨_, rfl, hl, hm, by simpa using hz, hcell, hwz⟩⟩
  clear hA0 hval0
  refine (walk_FnFraOk a0 len0 cap0 z0 W w0).mono fun e W' ⟨he, bel⟩ => ?_
  subst he
  exact ⟨_, rfl, _, _, _, [], _, [], hW', trodAll_mk1 (shut_bool Try.underlying4 _), (trodAll_cons_mk (Below.trod laidOut (by kernel_rfl) (of_decide_eq_true (by kernel_rfl)) k0 bel lt0) trodAll_mk0), rfl, bel.frame _, fun h => by cases h⟩

theorem fnFraOk_holds : Rows.FnFraOkSaid :=
  OpenClaim.holds_of_wide 8 Try.f8 rfl rfl rfl rfl rfl rfl rfl ⟨rfl, rfl, rfl, rfl, rfl⟩ rfl rfl rfl rfl rfl (by kernel_rfl) Try.func8 (by kernel_rfl)
    (of_decide_eq_true (by kernel_rfl)) (by unfold Func.isWrapper; first | (rw [if_pos (by decide +kernel)]; kernel_rfl) | (rw [if_neg (by decide +kernel)]; exact ⟨rfl, rfl⟩))
    (fun os started H enc _ => lifted_FnFraOk os started H enc)

#print axioms fnFraOk_holds
end Go.Proofs.Ytgdhlnfigcaepaa
