/-
  Proved: at every window the program's WinOk answers as the specification's WinOk; it writes into no argument, and nothing that was there is written. No condition.
-/
import Derived.Test.YtgdhlnfigcaepaaFnExactWinOkB4
import Derived.Test.YtgdhlnfigcaepaaFnExactWinOkB6
import Derived.Test.YtgdhlnfigcaepaaFnExactWinOkB7
import Derived.Test.YtgdhlnfigcaepaaFnExactWinOkB5
namespace Go.Proofs.Ytgdhlnfigcaepaa
open Go.ChangeShapes Go.WideShapes Go.ChangeAt Go.RowKit
open Go.ChangeMaps (open_string shut_string)
set_option linter.unusedVariables false

set_option maxRecDepth 100000 in
set_option maxHeartbeats 4000000 in
theorem walk_FnExactWinOk (x : Win) (v : Value) (w : World) (w0 : IRow w v x.seen) (w1 : x.key.size ≤ maxLen) :
    Calls Try.prog 5 #[.agg (x.cells v)] w fun e w' => e = .returned (.bool true) ∧ Below w.heap.size w w' := by
  obtain ⟨key, top, xs⟩ := x
  simp only at w0 w1 ⊢
  have M := hide w1
  have HI := hide w0
  obtain ⟨ao, cap, rfl, _, _, _⟩ := w0.form
  clear w0 w1
  have A := hide (Blk.new w 32 (winC key top (.slice ao xs.length cap)))
  have HB : Hid (Below w.heap.size w (w.alloc (.cells (winC key top (.slice ao xs.length cap)) 32))) := (Below.refl _ _).alloc (Nat.le_refl _) _
  have HS := hide (szFraWin_any ⟨key, top, xs⟩ (.slice ao xs.length cap) 1048576 _ ((unhide HI).below HB.out) M.out (by omega) (by omega))
  go_enter Try.func5, Try.ntmps5
  go_wp2_with fail
  refine (unhide HS).mono ?_
  rintro e w1 ⟨r, rfl, hr, hn, hb⟩
  replace A := hide ((unhide A).below hb)
  replace HB := hide (HB.out.trans (hb.mono HB.out.size))
  have HN := hide hn
  clear hb HS hn
  by_cases hneg : r < 0
  · go_wp2_with fail
    go_ret
    exact ⟨rfl, unhide HB⟩
  have hn2 : decide (r < 0) = false := by simpa using hneg
  have hl : xs.length ≤ 1048576 := HN.out (by omega)
  clear hneg
  have c0 := (unhide A).cell 0
  have c1 := (unhide A).cell 1
  have c2 := (unhide A).cell 2
  simp only [List.getElem?_toArray, List.getElem?_cons_zero, List.getElem?_cons_succ] at c0 c1 c2
  go_wp2_with fail
  refine (toFraWin_any ⟨key, top, xs⟩ _ _ ((unhide HI).below HB.out) hl).mono ?_
  rintro e w2 ⟨v2, rfl, ho, hb⟩
  have I2 := hide ho.irow
  replace A := hide ((unhide A).below hb)
  replace HB := hide (HB.out.trans (hb.mono HB.out.size))
  clear hb ho c0 c1 c2
  go_wp2_with fail
  refine (sWinOk_any ⟨key, top, xs⟩ v2 _ (unhide I2) M.out (by simp only; omega)).mono ?_
  rintro e w3 ⟨rfl, hb⟩
  replace A := hide ((unhide A).below hb)
  replace HB := hide (HB.out.trans (hb.mono HB.out.size))
  clear hb I2
  have c0 := (unhide A).cell 0
  have c1 := (unhide A).cell 1
  have c2 := (unhide A).cell 2
  simp only [List.getElem?_toArray, List.getElem?_cons_zero, List.getElem?_cons_succ] at c0 c1 c2
  go_wp2_with fail
  refine (toFraWin_any ⟨key, top, xs⟩ _ _ ((unhide HI).below HB.out) hl).mono ?_
  rintro e w4 ⟨v4, rfl, ho, hb⟩
  have I4 := hide ho.irow
  obtain ⟨o4, n4, rfl⟩ := row_form' ho
  replace A := hide ((unhide A).below hb)
  replace HB := hide (HB.out.trans (hb.mono HB.out.size))
  clear hb ho c0 c1 c2
  have X := hide (Blk.new w4 35 (winC key top (.slice o4 xs.length n4)))
  have BA : Hid (Below w4.heap.size w4 (w4.alloc (.cells (winC key top (.slice o4 xs.length n4)) 35))) := (Below.refl _ _).alloc (Nat.le_refl _) _
  replace A := hide ((unhide A).below BA.out)
  replace I4 := hide ((unhide I4).below BA.out)
  replace HB := hide (HB.out.trans (BA.out.mono HB.out.size))
  clear BA
  go_wp2_with fail
  generalize w4.alloc (.cells (winC key top (.slice o4 xs.length n4)) 35) = W4 at *
  generalize w4.heap.size = xb at *
  refine (iWinOk_any ⟨key, top, xs⟩ _ _ (unhide I4) M.out (by simp only; omega)).mono ?_
  rintro e w5 ⟨rfl, hb⟩
  replace A := hide ((unhide A).below hb)
  replace X := hide ((unhide X).below hb)
  replace I4 := hide ((unhide I4).below hb)
  replace HB := hide (HB.out.trans (hb.mono HB.out.size))
  clear hb
  generalize winOk ⟨key, top, xs⟩ = rr
  cases rr
  all_goals
    go_wp2_with fail
    replace A := hide ((unhide A).drew)
    replace X := hide ((unhide X).drew)
    replace I4 := hide (IRow.drew (unhide I4))
    replace HB : Hid (Below w.heap.size w w5.drew) := HB.out.drew
    refine wp_region_later (by kernel_rfl) ?_
    refine later_take (i := 0) (d := 22) (v := ?_) (by kernel_rfl) (by kernel_rfl) (by kernel_rfl) (by kernel_rfl) (fun _ _ _ h => h) (fun oi hoi => ?_) ?_
    rotate_left
    · simp at hoi
      subst hoi
      refine ⟨by rfl, fun w' hw' => ?_⟩
      have hx := Blk.below (unhide X) hw'
      have x0 := hx.cell 0
      have x1 := hx.cell 1
      have x2 := hx.cell 2
      simp only [List.getElem?_toArray, List.getElem?_cons_succ, List.getElem?_cons_zero] at x0 x1 x2
      go_simp
      all_goals rfl
    try simp only [Act.put, List.setIfInBounds_toArray, List.set_cons_zero, List.set_cons_succ]
    refine later_take (i := 1) (d := 23) (v := ?_) (by kernel_rfl) (by kernel_rfl) (by kernel_rfl) (by kernel_rfl) (fun _ _ _ h => h) (fun oi hoi => ?_) ?_
    rotate_left
    · simp at hoi
      subst hoi
      refine ⟨by rfl, fun w' hw' => ?_⟩
      have hx := Blk.below (unhide A) hw'
      have x0 := hx.cell 0
      have x1 := hx.cell 1
      have x2 := hx.cell 2
      simp only [List.getElem?_toArray, List.getElem?_cons_succ, List.getElem?_cons_zero] at x0 x1 x2
      go_simp
      all_goals rfl
    try simp only [Act.put, List.setIfInBounds_toArray, List.set_cons_zero, List.set_cons_succ]
    refine later_one (i := 2) (by kernel_rfl) (fun oi K hoi hK => ?_)
    simp at hoi
    subst hoi
    refine ⟨by rfl, ?_⟩
    go_simp
    refine (toFraWin_any ⟨key, top, xs⟩ _ _ ((unhide HI).below HB.out) hl).mono ?_
    rintro e w6 ⟨v6, rfl, ho, hb⟩
    have I6 := hide ho.irow
    clear ho
    go_simp
    refine hK.out _ _ hb ?_
    clear hK
    replace A := hide ((unhide A).below hb)
    replace X := hide ((unhide X).below hb)
    replace I4 := hide ((unhide I4).below hb)
    replace HB := hide (HB.out.trans (hb.mono HB.out.size))
    clear hb
    try simp only [Act.put, List.setIfInBounds_toArray, List.set_cons_zero, List.set_cons_succ]
    refine later_one (i := 3) (by kernel_rfl) (fun oi K hoi hK => ?_)
    simp at hoi
    subst hoi
    refine ⟨by rfl, ?_⟩
    go_simp
    refine (eqFraWin_same ⟨key, top, xs⟩ _ _ _ (unhide I4) (unhide I6)).mono ?_
    rintro e w7 ⟨rfl, hb⟩
    go_simp
    refine hK.out _ _ hb ?_
    clear hK
    replace HB := hide (HB.out.trans (hb.mono HB.out.size))
    clear hb
    try simp only [Act.put, List.setIfInBounds_toArray, List.set_cons_zero, List.set_cons_succ]
    refine later_take (i := 4) (d := 26) (v := ?_) (by kernel_rfl) (by kernel_rfl) (by kernel_rfl) (by kernel_rfl) (fun _ _ _ h => h) (fun oi hoi => ?_) ?_
    rotate_left
    · simp at hoi
      subst hoi
      refine ⟨by rfl, fun w' hw' => ?_⟩
      go_simp
      all_goals rfl
    try simp only [Act.put, List.setIfInBounds_toArray, List.set_cons_zero, List.set_cons_succ]
    refine later_done (by kernel_rfl) ?_ _
    go_wp2_with fail
    go_ret
    exact ⟨rfl, unhide HB⟩

set_option maxRecDepth 100000 in
theorem lifted_FnExactWinOk (os : Os) (started : os.Started) (H : Type) (enc : TypeId × Value → H) :
    ReturnsInHanded {} Try.checked os 5 .any (Rows.fnExactWinOkSpec.pre6 enc Try.prog Try.f5 Rows.fnExactWinOkRow.domain false) (Rows.fnExactWinOkSpec.post enc Try.prog Try.f5 false true false false) := by
  refine returnsInHanded_of_change (C := Try.checked) own started (by kernel_rfl) Try.func5
    (ChangeSpec.witness6 (enc := enc) (C := Try.checked) false ⟨#[], #[.agg #[.string ByteArray.empty, .int .i64 0, .slice none 0 0]], []⟩ 8 (by kernel_rfl) (by kernel_rfl) (by kernel_rfl) (by kernel_rfl)) ?_
  intro W base args ds gs before hval0 hW hcnd _
  have hval : ∀ (j : Nat) t v, Try.f5.params[j]? = some t → args[j]? = some v → Value.okWide Try.prog W .any base t v := hval0
  have hW' := hW
  obtain ⟨p, q, hA0, hV, rfl, hfz, hnd⟩ := hW
  have hA : DataW.TrodAll enc Try.prog W 0 (fun _ => true) true Try.f5.params.toList args.toList ds p := hA0
  rw [Try.params5] at hA hval
  obtain ⟨v0, vs0, d0, ds0, p0, q0, hargs, rfl, rfl, h0, r0⟩ := trodAll_cons hA
  obtain ⟨rfl, rfl, rfl⟩ := trodAll_nil r0
  obtain rfl : args = #[v0] := by cases args; simp_all
  obtain ⟨rfl, rfl⟩ := trodVars_none hV
  obtain ⟨c0, rfl, hc0⟩ := okWide_struct Try.underlying32 (hval 0 32 v0 rfl rfl)
  have k0 := h0
  have lt0 : ∀ x ∈ p0, x.block < W.heap.size := by obtain ⟨m, hm⟩ := k0; exact DataW.trod_lt m _ _ _ hm
  obtain ⟨m0, u0, rfl, w0, x0⟩ : ∃ (f : Win) (s : Value), c0 = f.cells s ∧ IRow W s f.seen ∧ f.key.size ≤ maxLen := by
    obtain ⟨fuel, hf⟩ := h0
    exact open_win hc0 hf
  clear hA0 hval0
  refine (walk_FnExactWinOk m0 u0 W w0 x0).mono fun e W' ⟨he, bel⟩ => ?_
  subst he
  exact ⟨_, rfl, _, _, _, [], _, [], hW', trodAll_mk1 (shut_bool Try.underlying4 _), (trodAll_cons_mk (Below.trod laidOut (by kernel_rfl) (of_decide_eq_true (by kernel_rfl)) k0 bel lt0) trodAll_mk0), rfl, bel.frame _, fun h => by cases h⟩

theorem fnExactWinOk_holds : Rows.FnExactWinOkSaid :=
  OpenClaim.holds_of_wide 5 Try.f5 rfl rfl rfl rfl rfl rfl rfl ⟨rfl, rfl, rfl, rfl, rfl⟩ rfl rfl rfl rfl rfl (by kernel_rfl) Try.func5 (by kernel_rfl)
    (of_decide_eq_true (by kernel_rfl)) (by unfold Func.isWrapper; first | (rw [if_pos (by decide +kernel)]; kernel_rfl) | (rw [if_neg (by decide +kernel)]; exact ⟨rfl, rfl⟩))
    (fun os started H enc _ => lifted_FnExactWinOk os started H enc)

#print axioms fnExactWinOk_holds
end Go.Proofs.Ytgdhlnfigcaepaa
