/-
  Proved: at every text the program's SecMade answers as the specification's SecMade, every field, and nothing that was there is written. No condition.
-/
import Derived.Test.YtkhjolfofcnhiarFrame
import Derived.Test.YtkhjolfofcnhiarMade2
namespace Go.Proofs.Ytkhjolfofcnhiar
open Go.ChangeShapes Go.WideShapes Go.ChangeAt Go.RowKit
open Go.ChangeMaps (open_string shut_string)
set_option linter.unusedVariables false

set_option maxRecDepth 100000 in
set_option maxHeartbeats 1000000 in
theorem eqSecHow_same (op who n : Int) (a b : ByteArray) (w : World) :
    Calls Try.prog 15 #[howV op who n a b, howV op who n a b] w fun e w' => e = .returned (.bool true) ∧ Below w.heap.size w w' := by
  unfold howV
  go_enter Try.func15, Try.ntmps15
  go_wp2_with fail
  go_ret
  exact ⟨rfl, ((Below.refl _ _).alloc (Nat.le_refl _) _).alloc (by simp) _⟩

theorem how_cells (op who n : Int) (a b : ByteArray) : howV op who n a b = .agg #[.int .i64 op, .int .i64 who, .int .i64 n, .string a, .string b] := rfl

set_option maxRecDepth 100000 in
set_option maxHeartbeats 1000000 in
theorem walk_FnExactSecMade (a0 : ByteArray) (w : World) (w0 : a0.size ≤ maxLen) :
    Calls Try.prog 5 #[.string a0] w fun e w' => e = .returned (.bool true) ∧ Below w.heap.size w w' := by
  have M := hide w0
  unfold maxLen at w0
  by_cases h : (1048576 : Int) < (a0.size : Int)
  · go_enter Try.func5, Try.ntmps5
    go_wp2_with fail
    go_ret
    exact ⟨rfl, Below.refl _ _⟩
  · have h2 : decide ((1048576 : Int) < (a0.size : Int)) = false := by simpa using h
    clear h
    go_enter Try.func5, Try.ntmps5
    go_wp2_with fail
    refine (sSecMade_any a0 _ M.out).mono ?_
    rintro e w1 ⟨rfl, hb1⟩
    rw [how_cells]
    go_wp2_with fail
    refine (iSecMade_any a0 _ M.out).mono ?_
    rintro e w2 ⟨rfl, hb2⟩
    have c0 := keep1 (b := w1.heap.size) (o := 0) (v := .int .i64 (mOp a0)) hb2 (by simp [go_sem]) (by simp)
    have c1 := keep1 (b := w1.heap.size) (o := 1) (v := .int .i64 (mWho a0)) hb2 (by simp [go_sem]) (by simp)
    have c2 := keep1 (b := w1.heap.size) (o := 2) (v := .int .i64 (mN a0)) hb2 (by simp [go_sem]) (by simp)
    have c3 := keep1 (b := w1.heap.size) (o := 3) (v := .string (mA a0)) hb2 (by simp [go_sem]) (by simp)
    have c4 := keep1 (b := w1.heap.size) (o := 4) (v := .string (mB a0)) hb2 (by simp [go_sem]) (by simp)
    have hsz : w1.heap.size < w2.heap.size := by have := hb2.size; simp at this; omega
    have hbb : Below w.heap.size w w2 := (hb1.alloc hb1.size _).trans (hb2.mono (by have := hb1.size; simp; omega))
    have HB := hide hbb
    have hle := hb1.size
    clear hb1 hb2 hbb
    rw [how_cells]
    go_wp2_with fail
    refine (eqSecHow_same (mOp a0) (mWho a0) (mN a0) (mA a0) (mB a0) _).mono ?_
    rintro e w3 ⟨rfl, hb3⟩
    have hbd : Below w.heap.size w w3 := ((unhide HB).alloc (by omega) _).trans (hb3.mono (by simp; omega))
    clear hb3
    go_wp2_with fail
    go_ret
    exact ⟨rfl, hbd⟩

set_option maxRecDepth 100000 in
theorem lifted_FnExactSecMade (os : Os) (started : os.Started) (H : Type) (enc : TypeId × Value → H) :
    ReturnsInHanded {} Try.checked os 5 .any (Rows.fnExactSecMadeSpec.pre6 enc Try.prog Try.f5 Rows.fnExactSecMadeRow.domain false) (Rows.fnExactSecMadeSpec.post enc Try.prog Try.f5 false true false false) := by
  refine returnsInHanded_of_change (C := Try.checked) own started (by kernel_rfl) Try.func5
    (ChangeSpec.witness6 (enc := enc) (C := Try.checked) false ⟨#[], #[.string ByteArray.empty], []⟩ 8 (by kernel_rfl) (by kernel_rfl) (by kernel_rfl) (by kernel_rfl)) ?_
  intro W base args ds gs before hval0 hW hcnd _
  have hval : ∀ (j : Nat) t v, Try.f5.params[j]? = some t → args[j]? = some v → Value.okWide Try.prog W .any base t v := hval0
  have hW' := hW
  obtain ⟨p, q, hA0, hV, rfl, hfz, hnd⟩ := hW
  have hA : DataW.TrodAll enc Try.prog W 0 (fun _ => true) true Try.f5.params.toList args.toList ds p := hA0
  rw [Try.params5] at hA hval
  obtain ⟨v0, vs0, d0, ds0, p0, q0, hargs, rfl, rfl, h0, r0⟩ := trodAll_cons hA
  obtain ⟨rfl, rfl, rfl⟩ := trodAll_nil r0
  obtain rfl : args = #[v0] := by cases args; simp_all
  obtain ⟨rfl, rfl⟩ := trodVars_none hV
  obtain ⟨a0, rfl, rfl, rfl, w0⟩ := open_string Try.underlying9 (hval 0 9 v0 rfl rfl) h0
  clear hA0 hval0
  refine (walk_FnExactSecMade a0 W w0).mono fun e W' ⟨he, bel⟩ => ?_
  subst he
  exact ⟨_, rfl, _, _, _, [], _, [], hW', trodAll_mk1 (shut_bool Try.underlying4 _), (trodAll_cons_mk (shut_string Try.underlying9 w0) trodAll_mk0), rfl, bel.frame _, fun h => by cases h⟩

theorem fnExactSecMade_holds : Rows.FnExactSecMadeSaid :=
  OpenClaim.holds_of_wide 5 Try.f5 rfl rfl rfl rfl rfl rfl rfl ⟨rfl, rfl, rfl, rfl, rfl⟩ rfl rfl rfl rfl rfl (by kernel_rfl) Try.func5 (by kernel_rfl)
    (of_decide_eq_true (by kernel_rfl)) (by unfold Func.isWrapper; first | (rw [if_pos (by decide +kernel)]; kernel_rfl) | (rw [if_neg (by decide +kernel)]; exact ⟨rfl, rfl⟩))
    (fun os started H enc _ => lifted_FnExactSecMade os started H enc)

#print axioms fnExactSecMade_holds
end Go.Proofs.Ytkhjolfofcnhiar
