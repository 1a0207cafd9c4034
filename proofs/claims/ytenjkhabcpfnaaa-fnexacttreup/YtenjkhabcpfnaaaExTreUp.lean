/-
  Proved: at every integer the program's TreUp answers as the specification's TreUp; its answer owns its memory, behind another call too; nothing that was there is written. No condition.
-/
import Derived.Test.YtenjkhabcpfnaaaFrame
import Derived.Test.YtenjkhabcpfnaaaPlcU
import Derived.Test.YtenjkhabcpfnaaaTreS
import Derived.Test.YtenjkhabcpfnaaaRowInI
import Derived.Test.YtenjkhabcpfnaaaEqInts
import Derived.Test.YtenjkhabcpfnaaaMarkI
namespace Go.Proofs.Ytenjkhabcpfnaaa
open Go.ChangeShapes Go.WideShapes Go.ChangeAt Go.RowKit
open Go.ChangeMaps (open_string shut_string)
set_option linter.unusedVariables false

theorem up_len (n : Int) : (upOf n).length ≤ 4 := by rw [upOf_chain]; exact chain_len _

set_option maxRecDepth 100000 in
set_option maxHeartbeats 2000000 in
theorem walk_FnExactTreUp (a0 : Int) (w : World) (w0 : (Lit.int .i64 a0).wf = true) :
    Calls Try.prog 8 #[.int .i64 a0] w fun e w' => e = .returned (.bool true) ∧ Below w.heap.size w w' := by
  clear w0
  have hml := up_len a0
  generalize hU : upOf a0 = L at hml
  have HU := hide hU
  clear hU
  go_enter Try.func8, Try.ntmps8
  go_wp2_with fail
  refine (sTreUp_any _ _).mono ?_
  rw [HU.out]
  rintro e w1 ⟨v1, rfl, ho1, hb1⟩
  have HB1 := hide hb1
  have W1 := hide (IIn.of ho1)
  have hle1 := hb1.size
  clear ho1 hb1
  go_wp2_with fail
  refine (iTreUp_any _ _).mono ?_
  rw [HU.out]
  rintro e w2 ⟨v2, rfl, ho2, hb2⟩
  have HB2 := hide ((unhide HB1).trans (hb2.mono hle1))
  have W2 := hide ((unhide W1).below hb2)
  have G2 := hide (IIn.of ho2)
  have hle2 := HB2.out.size
  have hs2 := hb2.size
  clear ho2 hb2 W1
  go_wp2_with fail
  refine (eqIntS_any v2 v1 L L _ (unhide G2).irow (unhide W2).irow).mono ?_
  rw [show decide (L = L) = true by simp]
  rintro e w3 ⟨rfl, hb3⟩
  have HB3 := hide ((unhide HB2).trans (hb3.mono hle2))
  have W3 := hide ((unhide W2).below hb3)
  have G3 := hide ((unhide G2).below hb3)
  have hle3 := HB3.out.size
  have hs3 := hb3.size
  clear hb3 W2 G2
  go_wp2_with fail
  refine (markIntS_any w1.heap.size v2 L 1 _ (unhide G3).1 (by omega) (by omega) (by omega)).mono ?_
  rintro e w4 ⟨rfl, ho4, hg4⟩
  have hle4 := hg4.size
  have hout := (unhide G3).out
  have HB4 : Hid (Below w.heap.size w w4) := (unhide HB3).grown hg4 hle3 (fun k hk => by have := (hout k hk).1; omega)
  have W4 := hide ((unhide W3).grown hg4 (fun k hk => .inr (hout k hk).1))
  have G4 : Hid (IIn w1.heap.size w2.heap.size w4 v2 (nums 1 L.length)) := ⟨ho4, fun g hg => (hout g hg).2⟩
  clear ho4 hg4 hout W3 G3
  have hz : Hid (((1 + L.length : Nat) : Int) = 1 + (L.length : Int)) := by show _ = _; omega
  generalize ((1 + L.length : Nat) : Int) = z at hz ⊢
  have hz0 : decide (z < 0) = false := by have := hz.out; simp; omega
  go_wp2_with fail
  refine (heldIntS_any v2 1 L.length _ (unhide G4).irow (by omega) (by omega) (by omega)).mono ?_
  rw [show ((1 + L.length : Nat) : Int) = z by have := hz.out; omega]
  rintro e w5 ⟨rfl, rfl⟩
  go_wp2_with fail
  refine (iTreUp_any _ _).mono ?_
  rw [HU.out]
  rintro e w6 ⟨v6, rfl, ho6, hb6⟩
  have HB6 := hide ((unhide HB4).trans (hb6.mono (by omega)))
  have W6 := hide ((unhide W4).below hb6)
  have G6 := hide ((unhide G4).below hb6)
  have H6 := hide (IIn.of ho6)
  have hle6 := HB6.out.size
  clear ho6 hb6 W4 G4
  go_wp2_with fail
  refine (eqIntS_any v6 v1 L L _ (unhide H6).irow (unhide W6).irow).mono ?_
  rw [show decide (L = L) = true by simp]
  rintro e w7 ⟨rfl, hb7⟩
  have HB7 := hide ((unhide HB6).trans (hb7.mono hle6))
  have G7 := hide ((unhide G6).below hb7)
  clear hb7 W6 G6 H6
  go_wp2_with fail
  refine (heldIntS_any v2 1 L.length _ (unhide G7).irow (by omega) (by omega) (by omega)).mono ?_
  rw [show ((1 + L.length : Nat) : Int) = z by have := hz.out; omega]
  rintro e w8 ⟨rfl, rfl⟩
  go_wp2_with fail
  go_ret
  exact ⟨rfl, unhide HB7⟩

set_option maxRecDepth 100000 in
theorem lifted_FnExactTreUp (os : Os) (started : os.Started) (H : Type) (enc : TypeId × Value → H) :
    ReturnsInHanded {} Try.checked os 8 .any (Rows.fnExactTreUpSpec.pre6 enc Try.prog Try.f8 Rows.fnExactTreUpRow.domain false) (Rows.fnExactTreUpSpec.post enc Try.prog Try.f8 false true false false) := by
  refine returnsInHanded_of_change (C := Try.checked) own started (by kernel_rfl) Try.func8
    (ChangeSpec.witness6 (enc := enc) (C := Try.checked) false ⟨#[], #[.int .i64 0], []⟩ 8 (by kernel_rfl) (by kernel_rfl) (by kernel_rfl) (by kernel_rfl)) ?_
  intro W base args ds gs before hval0 hW hcnd _
  have hval : ∀ (j : Nat) t v, Try.f8.params[j]? = some t → args[j]? = some v → Value.okWide Try.prog W .any base t v := hval0
  have hW' := hW
  obtain ⟨p, q, hA0, hV, rfl, hfz, hnd⟩ := hW
  have hA : DataW.TrodAll enc Try.prog W 0 (fun _ => true) true Try.f8.params.toList args.toList ds p := hA0
  rw [Try.params8] at hA hval
  obtain ⟨v0, vs0, d0, ds0, p0, q0, hargs, rfl, rfl, h0, r0⟩ := trodAll_cons hA
  obtain ⟨rfl, rfl, rfl⟩ := trodAll_nil r0
  obtain rfl : args = #[v0] := by cases args; simp_all
  obtain ⟨rfl, rfl⟩ := trodVars_none hV
  obtain ⟨a0, rfl, rfl, rfl, w0⟩ := open_int Try.underlying3 (hval 0 3 v0 rfl rfl) h0
  clear hA0 hval0
  refine (walk_FnExactTreUp a0 W w0).mono fun e W' ⟨he, bel⟩ => ?_
  subst he
  exact ⟨_, rfl, _, _, _, [], _, [], hW', trodAll_mk1 (shut_bool Try.underlying4 _), (trodAll_cons_mk (shut_int Try.underlying3 w0) trodAll_mk0), rfl, bel.frame _, fun h => by cases h⟩

theorem fnExactTreUp_holds : Rows.FnExactTreUpSaid :=
  OpenClaim.holds_of_wide 8 Try.f8 rfl rfl rfl rfl rfl rfl rfl ⟨rfl, rfl, rfl, rfl, rfl⟩ rfl rfl rfl rfl rfl (by kernel_rfl) Try.func8 (by kernel_rfl)
    (of_decide_eq_true (by kernel_rfl)) (by unfold Func.isWrapper; first | (rw [if_pos (by decide +kernel)]; kernel_rfl) | (rw [if_neg (by decide +kernel)]; exact ⟨rfl, rfl⟩))
    (fun os started H enc _ => lifted_FnExactTreUp os started H enc)

#print axioms fnExactTreUp_holds
end Go.Proofs.Ytenjkhabcpfnaaa
