/-
  Proved: at every tree the program's TreOk answers as the specification's TreOk, and writes into no argument; nothing that was there is written. No condition.
-/
import Derived.Test.YtggdmdfebmcegaaFrameT
import Derived.Test.YtggdmdfebmcegaaTOk
import Derived.Test.YtggdmdfebmcegaaHelpsU
import Derived.Test.YtggdmdfebmcegaaOrdR
namespace Go.Proofs.Ytggdmdfebmcegaa
open Go.ChangeShapes Go.WideShapes Go.ChangeAt Go.RowKit
open Go.ChangeMaps (open_string shut_string)
set_option linter.unusedVariables false

set_option maxRecDepth 100000 in
set_option maxHeartbeats 2000000 in
theorem walk_FnExactTreOk (v : Value) (xs : List ByteArray) (w : World) (h : SRow w v xs) (hx : ∀ x ∈ xs, x.size ≤ maxLen) :
    Calls Try.prog 6 #[.agg #[v]] w fun e w' => e = .returned (.bool true) ∧ Below w.heap.size w w' := by
  have HR0 := hide h
  have HX := hide hx
  obtain ⟨ao, cap, rfl, _, _, _⟩ := h.form
  clear h hx
  go_enter Try.func6, Try.ntmps6
  go_wp2_with fail
  refine (szTreTree_any _ xs 1048576 _ ((unhide HR0).alloc _) (unhide HX) (by omega) (by omega)).mono ?_
  rintro e w1 ⟨r, rfl, hr1, hr2, hb1⟩
  have A1 := hide (box_below (Boxed.new w 45 (.slice ao xs.length cap)) hb1)
  have HB1 : Hid (Below w.heap.size w w1) := ((Below.refl _ _).alloc (Nat.le_refl _) _).trans (hb1.mono (by simp))
  have hR2 := hide hr2
  clear hb1 hr2
  by_cases hneg : r < 0
  · go_wp2_with fail
    go_ret
    exact ⟨rfl, unhide HB1⟩
  have hneg2 : decide (r < 0) = false := by simpa using hneg
  have HL : Hid (xs.length ≤ 1048576) := by
    have := (hR2.out (by omega)).1
    show _ ≤ _
    omega
  clear hneg hR2
  have l1 := (unhide A1).cell
  go_wp2_with fail
  refine (toTreTree_any _ xs _ ((unhide HR0).below (unhide HB1)) HL.out).mono ?_
  rintro e w2 ⟨v2, rfl, ho2, hb2⟩
  have A2 := hide (box_below (unhide A1) hb2)
  have HB2 := hide (HB1.out.trans (hb2.mono HB1.out.size))
  have S2 := hide ho2.srow
  clear hb2 ho2 l1 A1 HB1
  go_wp2_with fail
  refine (sTreOk_any v2 xs _ (unhide S2) (unhide HX)).mono ?_
  obtain ⟨tb, htb⟩ : ∃ tb, treOk xs = tb := ⟨_, rfl⟩
  rw [htb]
  have HT := hide htb
  clear htb
  rintro e w3 ⟨rfl, hb3⟩
  have A3 := hide (box_below (unhide A2) hb3)
  have HB3 := hide (HB2.out.trans (hb3.mono HB2.out.size))
  clear hb3 A2 HB2 S2
  have l1 := (unhide A3).cell
  go_wp2_with fail
  refine (toTreTree_any _ xs _ ((unhide HR0).below (unhide HB3)) HL.out).mono ?_
  rintro e w4 ⟨v4, rfl, ho4, hb4⟩
  obtain ⟨o4, c4, hv4⟩ := row_form' ho4
  subst hv4
  have A4 := hide ((box_below (unhide A3) hb4).alloc (.cells #[.slice o4 xs.length c4] 25))
  have B4 := hide (Boxed.new w4 25 (.slice o4 xs.length c4))
  have hs4 := hb4.size
  have HB4 : Hid (Below w.heap.size w (w4.alloc (.cells #[.slice o4 xs.length c4] 25))) := (HB3.out.trans (hb4.mono HB3.out.size)).alloc (Nat.le_trans HB3.out.size hs4) _
  have S4 : Hid (SRow (w4.alloc (.cells #[.slice o4 xs.length c4] 25)) (.slice o4 xs.length c4) xs) := ho4.srow.alloc _
  clear hb4 ho4 l1 A3 HB3
  have l1 := (unhide B4).cell
  go_wp2_with fail
  refine (iTreOk_any _ xs _ (unhide S4) (unhide HX)).mono ?_
  rw [show treOk xs = tb from HT.out]
  rintro e w5 ⟨rfl, hb5⟩
  have A5 := hide (box_below (unhide A4) hb5)
  have B5 := hide (box_below (unhide B4) hb5)
  have HB5 := hide (HB4.out.trans (hb5.mono HB4.out.size))
  have S5 := hide ((unhide S4).below hb5)
  clear hb5 l1 A4 B4 HB4 S4
  go_wp2_with fail
  refine wp_region_later (by kernel_rfl) ?_
  refine later_take (i := 0) (d := 22) (v := ?_) (by kernel_rfl) (by kernel_rfl) (by kernel_rfl) (by kernel_rfl) (fun _ _ _ h => h) (fun oi hoi => ?_) ?_
  rotate_left
  · simp at hoi
    subst hoi
    refine ⟨by rfl, fun w' hw' => ?_⟩
    have hx := (box_below (w := w5.drew) (unhide B5) hw').cell
    go_simp
    all_goals rfl
  try simp only [Act.put, List.setIfInBounds_toArray, List.set_cons_zero, List.set_cons_succ]
  refine later_take (i := 1) (d := 23) (v := ?_) (by kernel_rfl) (by kernel_rfl) (by kernel_rfl) (by kernel_rfl) (fun _ _ _ h => h) (fun oi hoi => ?_) ?_
  rotate_left
  · simp at hoi
    subst hoi
    refine ⟨by rfl, fun w' hw' => ?_⟩
    have hx := (box_below (w := w5.drew) (unhide A5) hw').cell
    go_simp
    all_goals rfl
  try simp only [Act.put, List.setIfInBounds_toArray, List.set_cons_zero, List.set_cons_succ]
  refine later_one (i := 2) (by kernel_rfl) (fun oi K hoi hK => ?_)
  simp at hoi
  subst hoi
  refine ⟨by rfl, ?_⟩
  go_simp
  refine (toTreTree_any _ xs _ (((unhide HR0).below (unhide HB5)).drew) HL.out).mono ?_
  rintro e w6 ⟨v6, rfl, ho6, hb6⟩
  go_simp
  refine hK.out _ _ hb6 ?_
  clear hK
  have HB6 := hide (HB5.out.drew.trans (hb6.mono HB5.out.size))
  have S6 := hide ((unhide S5).drew.below hb6)
  have T6 := hide ho6.srow
  clear ho6 hb6
  try simp only [Act.put, List.setIfInBounds_toArray, List.set_cons_zero, List.set_cons_succ]
  refine later_one (i := 3) (by kernel_rfl) (fun oi K hoi hK => ?_)
  simp at hoi
  subst hoi
  refine ⟨by rfl, ?_⟩
  go_simp
  refine (eqTreTree_any _ v6 xs xs _ (unhide S6) (unhide T6)).mono ?_
  rw [show decide (xs = xs) = true by simp]
  rintro e w7 ⟨rfl, hb7⟩
  go_simp
  refine hK.out _ _ hb7 ?_
  clear hK
  have HB7 := hide (HB6.out.trans (hb7.mono HB6.out.size))
  clear hb7
  try simp only [Act.put, List.setIfInBounds_toArray, List.set_cons_zero, List.set_cons_succ]
  refine later_take (i := 4) (d := 26) (v := ?_) (by kernel_rfl) (by kernel_rfl) (by kernel_rfl) (by kernel_rfl) (fun _ _ _ h => h) (fun oi hoi => ?_) ?_
  rotate_left
  · simp at hoi
    subst hoi
    refine ⟨by rfl, fun w' hw' => ?_⟩
    go_simp
    all_goals rfl
  try simp only [Act.put, List.setIfInBounds_toArray, List.set_cons_zero, List.set_cons_succ]
  refine later_done (by kernel_rfl) ?_ _
  go_wp2_with fail
  go_ret
  exact ⟨rfl, unhide HB7⟩

set_option maxRecDepth 100000 in
theorem lifted_FnExactTreOk (os : Os) (started : os.Started) (H : Type) (enc : TypeId × Value → H) :
    ReturnsInHanded {} Try.checked os 6 .any (Rows.fnExactTreOkSpec.pre6 enc Try.prog Try.f6 Rows.fnExactTreOkRow.domain false) (Rows.fnExactTreOkSpec.post enc Try.prog Try.f6 false true false false) := by
  refine returnsInHanded_of_change (C := Try.checked) own started (by kernel_rfl) Try.func6
    (ChangeSpec.witness6 (enc := enc) (C := Try.checked) false ⟨#[], #[.agg #[.slice none 0 0]], []⟩ 8 (by kernel_rfl) (by kernel_rfl) (by kernel_rfl) (by kernel_rfl)) ?_
  intro W base args ds gs before hval0 hW hcnd _
  have hval : ∀ (j : Nat) t v, Try.f6.params[j]? = some t → args[j]? = some v → Value.okWide Try.prog W .any base t v := hval0
  have hW' := hW
  obtain ⟨p, q, hA0, hV, rfl, hfz, hnd⟩ := hW
  have hA : DataW.TrodAll enc Try.prog W 0 (fun _ => true) true Try.f6.params.toList args.toList ds p := hA0
  rw [Try.params6] at hA hval
  obtain ⟨v0, vs0, d0, ds0, p0, q0, hargs, rfl, rfl, h0, r0⟩ := trodAll_cons hA
  obtain ⟨rfl, rfl, rfl⟩ := trodAll_nil r0
  obtain rfl : args = #[v0] := by cases args; simp_all
  obtain ⟨rfl, rfl⟩ := trodVars_none hV
  obtain ⟨c0, rfl, hc0⟩ := okWide_struct Try.underlying45 (hval 0 45 v0 rfl rfl)
  have k0 := h0
  have lt0 : ∀ x ∈ p0, x.block < W.heap.size := by obtain ⟨m, hm⟩ := k0; exact DataW.trod_lt m _ _ _ hm
  obtain ⟨u0, z0, rfl, w0, x0⟩ : ∃ u zs, c0 = #[u] ∧ SRow W u zs ∧ ∀ y ∈ zs, y.size ≤ maxLen := by
    obtain ⟨fuel, hf⟩ := h0
    exact open_tree hc0 hf
  clear hA0 hval0
  refine (walk_FnExactTreOk u0 z0 W w0 x0).mono fun e W' ⟨he, bel⟩ => ?_
  subst he
  exact ⟨_, rfl, _, _, _, [], _, [], hW', trodAll_mk1 (shut_bool Try.underlying4 _), (trodAll_cons_mk (Below.trod laidOut (by kernel_rfl) (of_decide_eq_true (by kernel_rfl)) k0 bel lt0) trodAll_mk0), rfl, bel.frame _, fun h => by cases h⟩

theorem fnExactTreOk_holds : Rows.FnExactTreOkSaid :=
  OpenClaim.holds_of_wide 6 Try.f6 rfl rfl rfl rfl rfl rfl rfl ⟨rfl, rfl, rfl, rfl, rfl⟩ rfl rfl rfl rfl rfl (by kernel_rfl) Try.func6 (by kernel_rfl)
    (of_decide_eq_true (by kernel_rfl)) (by unfold Func.isWrapper; first | (rw [if_pos (by decide +kernel)]; kernel_rfl) | (rw [if_neg (by decide +kernel)]; exact ⟨rfl, rfl⟩))
    (fun os started H enc _ => lifted_FnExactTreOk os started H enc)

#print axioms fnExactTreOk_holds
end Go.Proofs.Ytggdmdfebmcegaa
