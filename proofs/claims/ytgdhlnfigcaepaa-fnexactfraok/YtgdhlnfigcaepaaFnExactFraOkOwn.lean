/-
  Proved: at every frame the program's FraOk answers as the specification's FraOk, and nothing that was there is written. No condition.
-/
import Derived.Test.YtgdhlnfigcaepaaFnExactFraOkB3
import Derived.Test.YtgdhlnfigcaepaaFnExactFraOkB5
import Derived.Test.YtgdhlnfigcaepaaFnExactFraOkB6
namespace Go.Proofs.Ytgdhlnfigcaepaa
open Go.ChangeShapes Go.WideShapes Go.ChangeAt Go.RowKit
open Go.ChangeMaps (open_string shut_string)
set_option linter.unusedVariables false

set_option maxRecDepth 100000 in
set_option maxHeartbeats 1000000 in
theorem walk_FnExactFraOk (f : Fra) (w : World) (w0 : FraFit f) :
    Calls Try.prog 4 #[.agg f.cells] w fun e w' => e = .returned (.bool true) ∧ Below w.heap.size w w' := by
  have M := hide w0
  clear w0
  obtain ⟨fr, key, n, text⟩ := f
  have hsz := szFraFrame_any ⟨fr, key, n, text⟩ 1048576 (w.alloc (.cells (fraC fr key n text) 24)) M.out.1 M.out.2 (by omega) (by omega)
  have HS := hide hsz
  have A := hide (Blk.new w 24 (fraC fr key n text))
  have HB : Hid (Below w.heap.size w (w.alloc (.cells (fraC fr key n text) 24))) := (Below.refl _ _).alloc (Nat.le_refl _) _
  clear hsz
  go_enter Try.func4, Try.ntmps4
  go_wp2_with fail
  refine (unhide HS).mono ?_
  rintro e w1 ⟨r, rfl, hr, hb⟩
  replace A := hide ((unhide A).below hb)
  replace HB := hide (HB.out.trans (hb.mono HB.out.size))
  clear hb HS
  by_cases hn : r < 0
  · go_wp2_with fail
    go_ret
    exact ⟨rfl, unhide HB⟩
  have hn2 : decide (r < 0) = false := by simpa using hn
  have c0 := (unhide A).cell 0
  have c1 := (unhide A).cell 1
  have c2 := (unhide A).cell 2
  have c3 := (unhide A).cell 3
  simp only [List.getElem?_toArray, List.getElem?_cons_zero, List.getElem?_cons_succ] at c0 c1 c2 c3
  clear hn
  go_wp2_with fail
  refine (toFraFrame_any ⟨fr, key, n, text⟩ _).mono ?_
  rintro e w2 ⟨rfl, hb⟩
  replace A := hide ((unhide A).below hb)
  replace HB := hide (HB.out.trans (hb.mono HB.out.size))
  clear hb c0 c1 c2 c3
  go_wp2_with fail
  refine (sFraOk_any ⟨fr, key, n, text⟩ _ M.out.1).mono ?_
  rintro e w3 ⟨rfl, hb⟩
  replace A := hide ((unhide A).below hb)
  replace HB := hide (HB.out.trans (hb.mono HB.out.size))
  clear hb
  have c0 := (unhide A).cell 0
  have c1 := (unhide A).cell 1
  have c2 := (unhide A).cell 2
  have c3 := (unhide A).cell 3
  simp only [List.getElem?_toArray, List.getElem?_cons_zero, List.getElem?_cons_succ] at c0 c1 c2 c3
  go_wp2_with fail
  refine (toFraFrame_any ⟨fr, key, n, text⟩ _).mono ?_
  rintro e w4 ⟨rfl, hb⟩
  replace HB := hide (HB.out.trans (hb.mono HB.out.size))
  clear hb c0 c1 c2 c3
  go_wp2_with fail
  refine (iFraOk_any ⟨fr, key, n, text⟩ _ M.out.1).mono ?_
  rintro e w5 ⟨rfl, hb⟩
  replace HB := hide (HB.out.trans (hb.mono HB.out.size))
  clear hb
  generalize fraOk ⟨fr, key, n, text⟩ = r
  cases r
  all_goals
    go_wp2_with fail
    go_ret
    exact ⟨rfl, unhide HB⟩

set_option maxRecDepth 100000 in
theorem lifted_FnExactFraOk (os : Os) (started : os.Started) (H : Type) (enc : TypeId × Value → H) :
    ReturnsInHanded {} Try.checked os 4 .any (Rows.fnExactFraOkSpec.pre6 enc Try.prog Try.f4 Rows.fnExactFraOkRow.domain false) (Rows.fnExactFraOkSpec.post enc Try.prog Try.f4 false true false false) := by
  refine returnsInHanded_of_change (C := Try.checked) own started (by kernel_rfl) Try.func4
    (ChangeSpec.witness6 (enc := enc) (C := Try.checked) false ⟨#[], #[.agg #[.int .i64 0, .string ByteArray.empty, .int .i64 0, .string ByteArray.empty]], []⟩ 8 (by kernel_rfl) (by kernel_rfl) (by kernel_rfl) (by kernel_rfl)) ?_
  intro W base args ds gs before hval0 hW hcnd _
  have hval : ∀ (j : Nat) t v, Try.f4.params[j]? = some t → args[j]? = some v → Value.okWide Try.prog W .any base t v := hval0
  have hW' := hW
  obtain ⟨p, q, hA0, hV, rfl, hfz, hnd⟩ := hW
  have hA : DataW.TrodAll enc Try.prog W 0 (fun _ => true) true Try.f4.params.toList args.toList ds p := hA0
  rw [Try.params4] at hA hval
  obtain ⟨v0, vs0, d0, ds0, p0, q0, hargs, rfl, rfl, h0, r0⟩ := trodAll_cons hA
  obtain ⟨rfl, rfl, rfl⟩ := trodAll_nil r0
  obtain rfl : args = #[v0] := by cases args; simp_all
  obtain ⟨rfl, rfl⟩ := trodVars_none hV
  obtain ⟨c0, rfl, hc0⟩ := okWide_struct Try.underlying24 (hval 0 24 v0 rfl rfl)
  have k0 := h0
  have lt0 : ∀ x ∈ p0, x.block < W.heap.size := by obtain ⟨m, hm⟩ := k0; exact DataW.trod_lt m _ _ _ hm
  obtain ⟨m0, rfl, w0⟩ : ∃ f : Fra, c0 = f.cells ∧ FraFit f := by
    obtain ⟨fuel, hf⟩ := h0
    exact open_frame hc0 hf
  clear hA0 hval0
  refine (walk_FnExactFraOk m0 W w0).mono fun e W' ⟨he, bel⟩ => ?_
  subst he
  exact ⟨_, rfl, _, _, _, [], _, [], hW', trodAll_mk1 (shut_bool Try.underlying4 _), (trodAll_cons_mk (Below.trod laidOut (by kernel_rfl) (of_decide_eq_true (by kernel_rfl)) k0 bel lt0) trodAll_mk0), rfl, bel.frame _, fun h => by cases h⟩

theorem fnExactFraOk_holds : Rows.FnExactFraOkSaid :=
  OpenClaim.holds_of_wide 4 Try.f4 rfl rfl rfl rfl rfl rfl rfl ⟨rfl, rfl, rfl, rfl, rfl⟩ rfl rfl rfl rfl rfl (by kernel_rfl) Try.func4 (by kernel_rfl)
    (of_decide_eq_true (by kernel_rfl)) (by unfold Func.isWrapper; first | (rw [if_pos (by decide +kernel)]; kernel_rfl) | (rw [if_neg (by decide +kernel)]; exact ⟨rfl, rfl⟩))
    (fun os started H enc _ => lifted_FnExactFraOk os started H enc)

#print axioms fnExactFraOk_holds
end Go.Proofs.Ytgdhlnfigcaepaa
