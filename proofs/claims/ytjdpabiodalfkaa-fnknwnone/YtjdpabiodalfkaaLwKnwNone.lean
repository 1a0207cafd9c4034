/-
  Proved: of every code: of nothing known no box is opened, and no secret can be made. No condition.
-/
import Derived.Test.YtjdpabiodalfkaaFrame
import Derived.Test.YtjdpabiodalfkaaDrawB
import Derived.Test.YtjdpabiodalfkaaSmallM
import Derived.Test.YtjdpabiodalfkaaClos
namespace Go.Proofs.Ytjdpabiodalfkaa
open Go.ChangeShapes Go.WideShapes Go.ChangeAt Go.RowKit
open Go.ChangeMaps (open_string shut_string)
set_option linter.unusedVariables false

theorem knwOpen_none (bs : List Bx) : knwOpen [] bs = [] := by
  unfold knwOpen
  split
  · exact openOf_none bs
  · rfl
theorem knwHas_none (bs : List Bx) (s : ByteArray) : knwHas [] bs s = false := by
  unfold knwHas
  rw [openOf_none, can_none]; simp

set_option maxRecDepth 100000 in
set_option maxHeartbeats 2000000 in
theorem walk_FnKnwNone (a0 : Option Addr) (len cap : Nat) (zs : List Int) (w : World) (h : IsRow .u8 w a0 len cap zs) :
    Calls Try.prog 7 #[.slice a0 len cap] w fun e w' => e = .returned (.bool true) ∧ Below w.heap.size w w' := by
  have hlm : len ≤ 9223372036854775807 := by
    rcases h with ⟨_, rfl, _⟩ | ⟨x, _, h1, h2, _⟩
    · omega
    · unfold maxLen at h2; omega
  have HR := hide h
  clear h
  by_cases hb : (1048576 : Int) < (len : Int)
  · go_enter Try.func7, Try.ntmps7
    go_wp2_with fail
    go_ret
    exact ⟨rfl, Below.refl _ _⟩
  have hb2 : decide ((1048576 : Int) < (len : Int)) = false := by simpa using hb
  clear hb
  go_enter Try.func7, Try.ntmps7
  go_wp2_with fail
  refine (DrawKnwHas_any a0 len cap zs _ (unhide HR)).mono ?_
  rintro e w1 ⟨v, u, xs, bs, s, rfl, hs, hO, hOB, hl, hlb, hsm, hsmb, hb1⟩
  have HB1 := hide hb1
  have hle1 := hb1.size
  have HU1 := hide hOB.brow
  have HY := hide (smallB_max hsmb)
  have M : Hid (s.size ≤ maxLen) := by show s.size ≤ maxLen; unfold maxLen; omega
  obtain ⟨ao, vc, hv⟩ := row_form' hO
  obtain ⟨bo, uc, hu⟩ := row_form' hOB
  subst hv
  subst hu
  clear hb1 hO hsm hOB hsmb
  go_wp2_with fail
  have HE1 : Hid (Below w1.heap.size w1 (w1.alloc (.cells #[] 9))) := (Below.refl _ _).alloc (Nat.le_refl _) _
  have HS1 : Hid (SRow (w1.alloc (.cells #[] 9)) (.slice (some ⟨w1.heap.size, 0, none⟩) 0 0) []) := .inr ⟨_, 0, rfl, by simp, by omega, fun i hi => absurd hi (Nat.not_lt_zero _)⟩
  refine (iKnwOpen_any _ _ [] bs _ (unhide HS1) (BRow.below (unhide HU1) (unhide HE1)) (fun x hx => by cases hx) (unhide HY)).mono ?_
  rintro e w2 ⟨r, rfl, ho2, hb2'⟩
  rw [knwOpen_none] at ho2
  obtain ⟨ro, rc, hr⟩ := row_form' ho2
  subst hr
  have HB2 := hide ((unhide HB1).trans (((unhide HE1).trans (hb2'.mono (by simp))).mono hle1))
  have HU2 := hide (BRow.below (BRow.below (unhide HU1) (unhide HE1)) hb2')
  have hle2 := HB2.out.size
  clear ho2 hb2' HE1 HS1
  rw [show ([] : List ByteArray).length = 0 from rfl]
  go_wp2_with fail
  have HE2 : Hid (Below w2.heap.size w2 (w2.alloc (.cells #[] 9))) := (Below.refl _ _).alloc (Nat.le_refl _) _
  have HS2 : Hid (SRow (w2.alloc (.cells #[] 9)) (.slice (some ⟨w2.heap.size, 0, none⟩) 0 0) []) := .inr ⟨_, 0, rfl, by simp, by omega, fun i hi => absurd hi (Nat.not_lt_zero _)⟩
  refine (iKnwHas_any _ _ [] bs s _ (unhide HS2) (BRow.below (unhide HU2) (unhide HE2)) (fun x hx => by cases hx) (unhide HY) M.out).mono ?_
  rw [knwHas_none]
  rintro e w3 ⟨rfl, hb3⟩
  have HB3 := hide ((unhide HB2).trans (((unhide HE2).trans (hb3.mono (by simp))).mono hle2))
  have hle3 := HB3.out.size
  clear hb3 HE2 HS2
  go_wp2_with fail
  have HE3 : Hid (Below w3.heap.size w3 (w3.alloc (.cells #[] 9))) := (Below.refl _ _).alloc (Nat.le_refl _) _
  have HS3 : Hid (SRow (w3.alloc (.cells #[] 9)) (.slice (some ⟨w3.heap.size, 0, none⟩) 0 0) []) := .inr ⟨_, 0, rfl, by simp, by omega, fun i hi => absurd hi (Nat.not_lt_zero _)⟩
  refine (iKnwMake_any _ [] s _ (unhide HS3) (fun x hx => by cases hx) M.out).mono ?_
  rw [can_none, Bool.and_false]
  rintro e w4 ⟨rfl, hb4⟩
  have HB4 := hide ((unhide HB3).trans (((unhide HE3).trans (hb4.mono (by simp))).mono hle3))
  have hle4 := HB4.out.size
  clear hb4 HE3 HS3
  go_wp2_with fail
  refine (keOk_any _).mono ?_
  rintro e w5 ⟨rfl, hb5⟩
  go_wp2_with fail
  go_ret
  exact ⟨rfl, (unhide HB4).trans (hb5.mono hle4)⟩

set_option maxRecDepth 100000 in
theorem lifted_FnKnwNone (os : Os) (started : os.Started) (H : Type) (enc : TypeId × Value → H) :
    ReturnsInHanded {} Try.checked os 7 .any (Rows.fnKnwNoneSpec.pre6 enc Try.prog Try.f7 Rows.fnKnwNoneRow.domain false) (Rows.fnKnwNoneSpec.post enc Try.prog Try.f7 false true false false) := by
  refine returnsInHanded_of_change (C := Try.checked) own started (by kernel_rfl) Try.func7
    (ChangeSpec.witness6 (enc := enc) (C := Try.checked) false ⟨#[], #[.slice none 0 0], []⟩ 8 (by kernel_rfl) (by kernel_rfl) (by kernel_rfl) (by kernel_rfl)) ?_
  intro W base args ds gs before hval0 hW hcnd _
  have hval : ∀ (j : Nat) t v, Try.f7.params[j]? = some t → args[j]? = some v → Value.okWide Try.prog W .any base t v := hval0
  have hW' := hW
  obtain ⟨p, q, hA0, hV, rfl, hfz, hnd⟩ := hW
  have hA : DataW.TrodAll enc Try.prog W 0 (fun _ => true) true Try.f7.params.toList args.toList ds p := hA0
  rw [Try.params7] at hA hval
  obtain ⟨v0, vs0, d0, ds0, p0, q0, hargs, rfl, rfl, h0, r0⟩ := trodAll_cons hA
  obtain ⟨rfl, rfl, rfl⟩ := trodAll_nil r0
  obtain rfl : args = #[v0] := by cases args; simp_all
  obtain ⟨rfl, rfl⟩ := trodVars_none hV
  obtain ⟨a0, len0, cap0, rfl⟩ := okWide_slice Try.underlying22 (hval 0 22 v0 rfl rfl)
  have k0 := h0
  have lt0 : ∀ x ∈ p0, x.block < W.heap.size := by obtain ⟨m, hm⟩ := k0; exact DataW.trod_lt m _ _ _ hm
  obtain ⟨z0, w0⟩ : ∃ zs, IsRow .u8 W a0 len0 cap0 zs := by
    obtain ⟨fuel, hf⟩ := h0
    rcases open_ints Try.underlying22 Try.underlying5 (by kernel_rfl) hf with ⟨hcs, _⟩ | ⟨x, l, c, zs, hcs, _, hl, hm, hz, _, hcell, hwz⟩
    · simp [Value.cells] at hcs
      obtain ⟨rfl, rfl, rfl⟩ := hcs
      exact ⟨[], .inl ⟨rfl, rfl, rfl, rfl⟩⟩
    · simp [Value.cells] at hcs
      obtain ⟨rfl, rfl, rfl⟩ := hcs
      exact ⟨zs, .inr ⟨_, rfl, hl, hm, by simpa using hz, hcell, hwz⟩⟩
  clear hA0 hval0
  refine (walk_FnKnwNone a0 len0 cap0 z0 W w0).mono fun e W' ⟨he, bel⟩ => ?_
  subst he
  exact ⟨_, rfl, _, _, _, [], _, [], hW', trodAll_mk1 (shut_bool Try.underlying4 _), (trodAll_cons_mk (Below.trod laidOut (by kernel_rfl) (of_decide_eq_true (by kernel_rfl)) k0 bel lt0) trodAll_mk0), rfl, bel.frame _, fun h => by cases h⟩

theorem fnKnwNone_holds : Rows.FnKnwNoneSaid :=
  OpenClaim.holds_of_wide 7 Try.f7 rfl rfl rfl rfl rfl rfl rfl ⟨rfl, rfl, rfl, rfl, rfl⟩ rfl rfl rfl rfl rfl (by kernel_rfl) Try.func7 (by kernel_rfl)
    (of_decide_eq_true (by kernel_rfl)) (by unfold Func.isWrapper; first | (rw [if_pos (by decide +kernel)]; kernel_rfl) | (rw [if_neg (by decide +kernel)]; exact ⟨rfl, rfl⟩))
    (fun os started H enc _ => lifted_FnKnwNone os started H enc)

#print axioms fnKnwNone_holds
end Go.Proofs.Ytjdpabiodalfkaa
