/-
  Proved: the program's TreNew answers as the specification's TreNew; its answer owns its memory, behind another call too; nothing that was there is written. No condition.
-/
import Derived.Test.YtenjkhabcpfnaaaFrame
import Derived.Test.YtenjkhabcpfnaaaTreN
import Derived.Test.YtenjkhabcpfnaaaHelpsT
import Derived.Test.YtenjkhabcpfnaaaRowIn
namespace Go.Proofs.Ytenjkhabcpfnaaa
open Go.ChangeShapes Go.WideShapes Go.ChangeAt Go.RowKit
open Go.ChangeMaps (open_string shut_string)
set_option linter.unusedVariables false

/-- A local of the walk holds a value. -/
def At (b : Nat) (v : Value) (w : World) : Prop := w.cell? ⟨b, 0, none⟩ = some v ∧ b < w.heap.size
theorem At.new (w : World) (v : Value) (t : TypeId) : At w.heap.size v (w.alloc (.cells #[v] t)) := ⟨by simp [go_sem], by simp⟩
theorem At.below {b : Nat} {v : Value} {w w' : World} (h : At b v w) (hb : Below w.heap.size w w') : At b v w' := ⟨(hb.cell (p := ⟨b, 0, none⟩) h.2).trans h.1, Nat.lt_of_lt_of_le h.2 hb.size⟩
theorem At.alloc {b : Nat} {v : Value} {w : World} (h : At b v w) (o : Obj) : At b v (w.alloc o) := h.below ((Below.refl _ _).alloc (Nat.le_refl _) _)
theorem At.grown {b : Nat} {v : Value} {w w' : World} {r : Option Nat} (h : At b v w) (hg : w.grownBy w' r) (hr : some b ≠ r) : At b v w' := ⟨(World.cell?_of_block (w := w) (hg.block b h.2 hr)).trans h.1, Nat.lt_of_lt_of_le h.2 hg.size⟩

set_option maxRecDepth 100000 in
set_option maxHeartbeats 4000000 in
theorem walk_FnExactTreNew (w : World) :
    Calls Try.prog 6 #[] w fun e w' => e = .returned (.bool true) ∧ Below w.heap.size w w' := by
  have hbl : Hid (bare.length = 15) := rfl
  go_enter Try.func6, Try.ntmps6
  go_wp2_with fail
  refine (sTreNew_any _).mono ?_
  rintro e w1 ⟨v1, rfl, ho1, hb1⟩
  obtain ⟨o1, c1, hv1⟩ := row_form' ho1
  subst hv1
  rw [hbl.out] at ho1 ⊢
  have A1 := hide (At.new w1 (.slice o1 15 c1) 37)
  have W1 : Hid (TIn w.heap.size w1.heap.size (w1.alloc (.cells #[.slice o1 15 c1] 37)) (.slice o1 15 c1) bare) := RowIn.below (RowIn.of ho1) ((Below.refl _ _).alloc (Nat.le_refl _) _)
  have HB1 := hide (hb1.alloc hb1.size (.cells #[.slice o1 15 c1] 37))
  have hle1 := hb1.size
  clear ho1 hb1
  go_wp2_with fail
  refine (iTreNew_any _).mono ?_
  rintro e w2 ⟨v2, rfl, ho2, hb2⟩
  obtain ⟨o2, c2, hv2⟩ := row_form' ho2
  subst hv2
  rw [hbl.out] at ho2 ⊢
  have hs2 := hb2.size
  rw [World.size_alloc] at hs2
  have A2 := hide (((unhide A1).below hb2).alloc (.cells #[.slice o2 15 c2] 37))
  have B2 := hide (At.new w2 (.slice o2 15 c2) 37)
  have W2 := hide (((unhide W1).below hb2).below ((Below.refl _ _).alloc (Nat.le_refl _) (.cells #[.slice o2 15 c2] 37)))
  have G2 : Hid (TIn (w1.heap.size + 1) w2.heap.size (w2.alloc (.cells #[.slice o2 15 c2] 37)) (.slice o2 15 c2) bare) := by
    have q := RowIn.below (RowIn.of ho2) ((Below.refl _ _).alloc (Nat.le_refl _) (.cells #[.slice o2 15 c2] 37))
    rw [World.size_alloc] at q
    exact q
  have HB2 : Hid (Below w.heap.size w (w2.alloc (.cells #[.slice o2 15 c2] 37))) := ((unhide HB1).trans (hb2.mono (by simp; omega))).alloc (by omega) _
  clear ho2 hb2 A1 W1 HB1
  have hsz2 : (w2.alloc (.cells #[.slice o2 15 c2] 37)).heap.size = w2.heap.size + 1 := by simp
  have l1 := (unhide A2).1
  have l2 := (unhide B2).1
  go_wp2_with fail
  refine (eqTreTree_any _ _ bare bare _ (unhide G2).srow (unhide W2).srow).mono ?_
  rw [show decide (bare = bare) = true by simp]
  rintro e w4 ⟨rfl, hb4⟩
  have A4 := hide ((unhide A2).below hb4)
  have B4 := hide ((unhide B2).below hb4)
  have W4 := hide ((unhide W2).below hb4)
  have G4 := hide ((unhide G2).below hb4)
  have hs4 := hb4.size
  have HB4 := hide ((unhide HB2).trans (hb4.mono (by omega)))
  clear hb4 A2 B2 W2 G2 HB2 l1 l2
  have l2 := (unhide B4).1
  go_wp2_with fail
  refine (markTreTree_any (w1.heap.size + 1) _ bare 1 _ (unhide G4).1 (by omega) (by omega) (by rw [hbl.out]; omega)).mono ?_
  rw [hbl.out]
  rintro e w5 ⟨rfl, ho5, hg5⟩
  have hs5 := hg5.size
  have hout := (unhide G4).out
  have A5 : Hid (At w1.heap.size (.slice o1 15 c1) w5) := (unhide A4).grown hg5 (fun q => by have := (hout _ q.symm).1; omega)
  have B5 : Hid (At w2.heap.size (.slice o2 15 c2) w5) := (unhide B4).grown hg5 (fun q => by have := (hout _ q.symm).2; omega)
  have W5 := hide ((unhide W4).grown hg5 (fun k hk => .inr (by have := (hout k hk).1; omega)))
  have G5 : Hid (TIn (w1.heap.size + 1) w2.heap.size w5 (.slice o2 15 c2) (marks 1 15)) := ⟨ho5, fun g hg => (hout g hg).2⟩
  have HB5 : Hid (Below w.heap.size w w5) := (unhide HB4).grown hg5 (by omega) (fun k hk => by have := (hout k hk).1; omega)
  clear ho5 hg5 hout A4 B4 W4 G4 HB4 l2
  have l2 := (unhide B5).1
  rw [show ((1 + 15 : Nat) : Int) = 16 from rfl]
  go_wp2_with fail
  refine (heldTreTree_any _ 15 1 _ (unhide G5).srow (by omega) (by omega) (by omega)).mono ?_
  rw [show ((1 + 15 : Nat) : Int) = 16 from rfl]
  rintro e w6 ⟨rfl, hb6⟩
  have A6 := hide ((unhide A5).below hb6)
  have B6 := hide ((unhide B5).below hb6)
  have W6 := hide ((unhide W5).below hb6)
  have G6 := hide ((unhide G5).below hb6)
  have hs6 := hb6.size
  have HB6 := hide ((unhide HB5).trans (hb6.mono (by omega)))
  clear hb6 A5 B5 W5 G5 HB5 l2
  go_wp2_with fail
  refine (iTreNew_any _).mono ?_
  rintro e w7 ⟨v7, rfl, ho7, hb7⟩
  obtain ⟨o7, c7, hv7⟩ := row_form' ho7
  subst hv7
  rw [hbl.out] at ho7 ⊢
  have hs7 := hb7.size
  have A7 := hide (((unhide A6).below hb7).alloc (.cells #[.slice o7 15 c7] 37))
  have B7 := hide (((unhide B6).below hb7).alloc (.cells #[.slice o7 15 c7] 37))
  have C7 := hide (At.new w7 (.slice o7 15 c7) 37)
  have W7 := hide (((unhide W6).below hb7).below ((Below.refl _ _).alloc (Nat.le_refl _) (.cells #[.slice o7 15 c7] 37)))
  have G7 := hide (((unhide G6).below hb7).below ((Below.refl _ _).alloc (Nat.le_refl _) (.cells #[.slice o7 15 c7] 37)))
  have H7 : Hid (SRow (w7.alloc (.cells #[.slice o7 15 c7] 37)) (.slice o7 15 c7) bare) := (own_srow ho7).alloc _
  have HB7 : Hid (Below w.heap.size w (w7.alloc (.cells #[.slice o7 15 c7] 37))) := ((unhide HB6).trans (hb7.mono (by omega))).alloc (by omega) _
  clear ho7 hb7 A6 B6 W6 G6 HB6
  have hsz7 : (w7.alloc (.cells #[.slice o7 15 c7] 37)).heap.size = w7.heap.size + 1 := by simp
  have l1 := (unhide A7).1
  have l3 := (unhide C7).1
  go_wp2_with fail
  refine (eqTreTree_any _ _ bare bare _ (unhide H7) (unhide W7).srow).mono ?_
  rw [show decide (bare = bare) = true by simp]
  rintro e w9 ⟨rfl, hb9⟩
  have B9 := hide ((unhide B7).below hb9)
  have G9 := hide ((unhide G7).below hb9)
  have hs9 := hb9.size
  have HB9 := hide ((unhide HB7).trans (hb9.mono (by omega)))
  clear hb9 A7 B7 C7 W7 G7 H7 HB7 l1 l3
  have l2 := (unhide B9).1
  go_wp2_with fail
  refine (heldTreTree_any _ 15 1 _ (unhide G9).srow (by omega) (by omega) (by omega)).mono ?_
  rw [show ((1 + 15 : Nat) : Int) = 16 from rfl]
  rintro e w10 ⟨rfl, hb10⟩
  have HB10 := hide ((unhide HB9).trans (hb10.mono (by omega)))
  clear hb10 B9 G9 HB9 l2
  go_wp2_with fail
  go_ret
  exact ⟨rfl, unhide HB10⟩

set_option maxRecDepth 100000 in
theorem lifted_FnExactTreNew (os : Os) (started : os.Started) (H : Type) (enc : TypeId × Value → H) :
    ReturnsInHanded {} Try.checked os 6 .any (Rows.fnExactTreNewSpec.pre6 enc Try.prog Try.f6 Rows.fnExactTreNewRow.domain false) (Rows.fnExactTreNewSpec.post enc Try.prog Try.f6 false true false false) := by
  refine returnsInHanded_of_change (C := Try.checked) own started (by kernel_rfl) Try.func6
    (ChangeSpec.witness6 (enc := enc) (C := Try.checked) false ⟨#[], #[], []⟩ 8 (by kernel_rfl) (by kernel_rfl) (by kernel_rfl) (by kernel_rfl)) ?_
  intro W base args ds gs before hval0 hW hcnd _
  have hval : ∀ (j : Nat) t v, Try.f6.params[j]? = some t → args[j]? = some v → Value.okWide Try.prog W .any base t v := hval0
  have hW' := hW
  obtain ⟨p, q, hA0, hV, rfl, hfz, hnd⟩ := hW
  have hA : DataW.TrodAll enc Try.prog W 0 (fun _ => true) true Try.f6.params.toList args.toList ds p := hA0
  rw [Try.params6] at hA hval
  obtain ⟨hargs, rfl, rfl⟩ := trodAll_nil hA
  obtain rfl : args = #[] := by cases args; simp_all
  obtain ⟨rfl, rfl⟩ := trodVars_none hV
  clear hA0 hval0
  refine (walk_FnExactTreNew  W ).mono fun e W' ⟨he, bel⟩ => ?_
  subst he
  exact ⟨_, rfl, _, _, _, [], _, [], hW', trodAll_mk1 (shut_bool Try.underlying4 _), trodAll_mk0, rfl, bel.frame _, fun h => by cases h⟩

theorem fnExactTreNew_holds : Rows.FnExactTreNewSaid :=
  OpenClaim.holds_of_wide 6 Try.f6 rfl rfl rfl rfl rfl rfl rfl ⟨rfl, rfl, rfl, rfl, rfl⟩ rfl rfl rfl rfl rfl (by kernel_rfl) Try.func6 (by kernel_rfl)
    (of_decide_eq_true (by kernel_rfl)) (by unfold Func.isWrapper; first | (rw [if_pos (by decide +kernel)]; kernel_rfl) | (rw [if_neg (by decide +kernel)]; exact ⟨rfl, rfl⟩))
    (fun os started H enc _ => lifted_FnExactTreNew os started H enc)

#print axioms fnExactTreNew_holds
end Go.Proofs.Ytenjkhabcpfnaaa
