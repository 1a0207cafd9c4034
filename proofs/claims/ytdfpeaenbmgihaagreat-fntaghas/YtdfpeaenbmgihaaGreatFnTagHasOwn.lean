/-
  Proved: at every code the law FnTagHas returns true (tagHas is so of commits and themselves, and of nothing; of what one is behind and another one is, one behind the other, it is so of the first; and it says whether the second is the first one's beginning), and nothing that was there is written. No condition.
-/
import Derived.Test.YtdfpeaenbmgihaaGreatWB24
namespace Go.Proofs.YtdfpeaenbmgihaaGreat
set_option maxHeartbeats 64000000
set_option maxRecDepth 100000
open Go.ChangeShapes Go.WideShapes Go.ChangeAt Go.RowKit
open Go.ChangeMaps (open_string shut_string)
set_option linter.unusedVariables false
theorem pre_self (s : ByteArray) : preB s s = true := by unfold preB; rw [if_pos (Nat.le_refl _)]; simp [ByteArray.extract_zero_size]
theorem pre_none (s : ByteArray) : preB s ⟨#[]⟩ = true := by unfold preB; rw [if_pos (show (⟨#[]⟩ : ByteArray).size ≤ s.size from Nat.zero_le _)]; simp [show (⟨#[]⟩ : ByteArray).size = 0 from rfl]
theorem pre_app (s t : ByteArray) : preB (s ++ t) s = true := by unfold preB; rw [if_pos (by rw [ByteArray.size_append]; omega)]; simp [ByteArray.extract_append_eq_left]
theorem walk_FnTagHas (a0 : Option Addr) (len0 cap0 : Nat) (z0 : List Int) (w : World) (w0 : IsRow .u8 w a0 len0 cap0 z0) : Calls Tryz.prog 3 #[.slice a0 len0 cap0] w fun e w' => e = .returned (.bool true) ∧ Below w.heap.size w w' := by
 have hR := hide w0; clear w0; by_cases h : (1048576 : Int) < (len0 : Int)
 · go_enter Tryz.func3, Tryz.ntmps3; (go_wp2_with fail); go_ret; exact ⟨rfl, Below.refl _ _⟩
 (have h2 : decide ((1048576 : Int) < (len0 : Int)) = false := by simpa using h); clear h; go_enter Tryz.func3, Tryz.ntmps3; (go_wp2_with fail); refine (DrawTagHas_any a0 len0 cap0 z0 _ hR.out).mono ?_; rintro e w1 ⟨s, t, rfl, hs, ht, hb1⟩; have HB := hide hb1; (have hc : ¬ maxLen < s.size + t.size := by unfold maxLen; omega); unfold maxLen at hc; clear hb1 hR; obtain ⟨r, hr⟩ : ∃ r, preB s t = r := ⟨_, rfl⟩; have HR := hide hr
 have key : (t.size ≤ s.size ∧ ((s.extract 0 t.size).toList == t.toList) = r) ∨ (¬ t.size ≤ s.size ∧ r = false) := by
  unfold preB at hr; split at hr
  · exact .inl ⟨by assumption, hr⟩
  · exact .inr ⟨by assumption, hr.symm⟩
 clear hr; have HK := hide key; clear key; (go_wp2_with fail); refine (iTagHas_any s t _).mono ?_; rw [HR.out]; rintro e wz ⟨rfl, hz⟩; subst hz; (go_wp2_with fail); refine (sTagHas_any s t _).mono ?_; rw [HR.out]; rintro e wz ⟨rfl, hz⟩; subst hz; (have hrr : (r != r) = false := by cases r <;> rfl); (go_wp2_with fail); refine (iTagHas_any s s _).mono ?_; rw [pre_self]; rintro e wz ⟨rfl, hz⟩; subst hz; (go_wp2_with fail); refine (iTagHas_any s ⟨#[]⟩ _).mono ?_; rw [pre_none]; rintro e wz ⟨rfl, hz⟩; subst hz; (go_wp2_with fail); refine (iTagHas_any (s ++ t) s _).mono ?_; rw [pre_app]; rintro e wz ⟨rfl, hz⟩; subst hz; rcases HK.out with ⟨hl, hx⟩ | ⟨hl, rfl⟩
 · (have h1 : decide ((t.size : Int) ≤ (s.size : Int)) = true := by simpa using hl); (have h3 : (t.size : Int) ≤ (s.size : Int) := by omega); (have hrr2 : (r == r) = true := by cases r <;> rfl); (go_wp2_with fail); refine (keOk_any _).mono ?_; rintro e w6 ⟨rfl, hb6⟩; have HB6 := hide (HB.out.trans (hb6.mono HB.out.size)); clear hb6; (go_wp2_with fail); go_ret; exact ⟨rfl, unhide HB6⟩
 · (have h1 : decide ((t.size : Int) ≤ (s.size : Int)) = false := by simpa using hl); (have h3 : ¬ (t.size : Int) ≤ (s.size : Int) := by omega); (go_wp2_with fail); refine (keOk_any _).mono ?_; rintro e w6 ⟨rfl, hb6⟩; have HB6 := hide (HB.out.trans (hb6.mono HB.out.size)); clear hb6; (go_wp2_with fail); go_ret; exact ⟨rfl, unhide HB6⟩
theorem lifted_FnTagHas (os : Os) (started : os.Started) (H : Type) (enc : TypeId × Value → H) :
    ReturnsInHanded {} Tryz.checked os 3 .any (Rows.fnTagHasSpec.pre6 enc Tryz.prog Tryz.f3 Rows.fnTagHasRow.domain false) (Rows.fnTagHasSpec.post enc Tryz.prog Tryz.f3 false true false false) := by
  refine returnsInHanded_of_change (C := Tryz.checked) own started (by kernel_rfl) Tryz.func3
    (ChangeSpec.witness6 (enc := enc) (C := Tryz.checked) false ⟨#[], #[.slice none 0 0], []⟩ 8 (by kernel_rfl) (by kernel_rfl) (by kernel_rfl) (by kernel_rfl)) ?_
  intro W base args ds gs before hval0 hW hcnd _
  have hval : ∀ (j : Nat) t v, Tryz.f3.params[j]? = some t → args[j]? = some v → Value.okWide Tryz.prog W .any base t v := hval0
  have hW' := hW
  obtain ⟨p, q, hA0, hV, rfl, hfz, hnd⟩ := hW
  have hA : DataW.TrodAll enc Tryz.prog W 0 (fun _ => true) true Tryz.f3.params.toList args.toList ds p := hA0
  rw [Tryz.params3] at hA hval
  obtain ⟨v0, vs0, d0, ds0, p0, q0, hargs, rfl, rfl, h0, r0⟩ := trodAll_cons hA
  obtain ⟨rfl, rfl, rfl⟩ := trodAll_nil r0
  obtain rfl : args = #[v0] := by cases args; simp_all
  obtain ⟨rfl, rfl⟩ := trodVars_none hV
  obtain ⟨a0, len0, cap0, rfl⟩ := okWide_slice Tryz.underlying22 (hval 0 22 v0 rfl rfl)
  have k0 := h0
  have lt0 : ∀ x ∈ p0, x.block < W.heap.size := by obtain ⟨m, hm⟩ := k0; exact DataW.trod_lt m _ _ _ hm
  obtain ⟨z0, w0⟩ : ∃ zs, IsRow .u8 W a0 len0 cap0 zs := by
    obtain ⟨fuel, hf⟩ := h0
    rcases open_ints Tryz.underlying22 Tryz.underlying5 (by kernel_rfl) hf with ⟨hcs, _⟩ | ⟨x, l, c, zs, hcs, _, hl, hm, hz, _, hcell, hwz⟩
    · simp [Value.cells] at hcs
      obtain ⟨rfl, rfl, rfl⟩ := hcs
      exact ⟨[], .inl ⟨rfl, rfl, rfl, rfl⟩⟩
    · simp [Value.cells] at hcs
      obtain ⟨rfl, rfl, rfl⟩ := hcs
      exact ⟨zs, .inr ⟨_, rfl, hl, hm, by simpa using hz, hcell, hwz⟩⟩
  clear hA0 hval0
  refine (walk_FnTagHas a0 len0 cap0 z0 W w0).mono fun e W' ⟨he, bel⟩ => ?_
  subst he
  exact ⟨_, rfl, _, _, _, [], _, [], hW', trodAll_mk1 (shut_bool Tryz.underlying4 _), (trodAll_cons_mk (Below.trod laidOut (by kernel_rfl) (of_decide_eq_true (by kernel_rfl)) k0 bel lt0) trodAll_mk0), rfl, bel.frame _, fun h => by cases h⟩
theorem fnTagHas_holds : Rows.FnTagHasSaid :=
  OpenClaim.holds_of_wide 3 Tryz.f3 rfl rfl rfl rfl rfl rfl rfl ⟨rfl, rfl, rfl, rfl, rfl⟩ rfl rfl rfl rfl rfl (by kernel_rfl) Tryz.func3 (by kernel_rfl)
    (of_decide_eq_true (by kernel_rfl)) (by unfold Func.isWrapper; first | (rw [if_pos (by decide +kernel)]; kernel_rfl) | (rw [if_neg (by decide +kernel)]; exact ⟨rfl, rfl⟩))
    (fun os started H enc _ => lifted_FnTagHas os started H enc)
end Go.Proofs.YtdfpeaenbmgihaaGreat
