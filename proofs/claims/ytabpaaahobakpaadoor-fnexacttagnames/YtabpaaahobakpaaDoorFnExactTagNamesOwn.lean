/-
  Proved: at every text the program's TagNames answers as the specification's TagNames; it keeps nothing of the text, and its answer owns its memory, behind another call too. No condition but the card's own (two tables of the library lie as the program's text lays them).
-/
import Derived.Test.YtabpaaahobakpaaDoorFnExactTagNamesB2
import Derived.Test.YtabpaaahobakpaaDoorFnExactTagNamesB1
import Derived.Test.YtabpaaahobakpaaDoorTie
import Derived.Test.YtabpaaahobakpaaDoorCards
import Derived.ProofKit
import Derived.Lay
import Derived.LaidOnce
import Derived.SevenTiedAt
namespace Go.Proofs.YtabpaaahobakpaaDoor
open Go.ChangeShapes Go.WideShapes Go.ChangeAt Go.RowKit
open Go.ChangeMaps (open_string shut_string)
set_option linter.unusedVariables false

set_option maxRecDepth 100000 in
set_option maxHeartbeats 4000000 in
theorem walk_FnExactTagNames (a0 : ByteArray) (w : World) (w0 : a0.size ≤ maxLen) :
    Calls Tryd.prog 3 #[.string a0] w fun e w' => e = .returned (.bool true) ∧ Below w.heap.size w w' := by
  by_cases h : (1048576 : Int) < (a0.size : Int)
  · go_enter Tryd.func3, Tryd.ntmps3
    go_wp2_with fail
    go_ret
    exact ⟨rfl, Below.refl _ _⟩
  have h2 : decide ((1048576 : Int) < (a0.size : Int)) = false := by simpa using h
  have hs : a0.size ≤ 1048576 := by omega
  have hml := pieces_len a0
  obtain ⟨L, hL⟩ : ∃ L, pieces a0 = L := ⟨_, rfl⟩
  rw [hL] at hml
  have HS : Hid (∀ u : World, Calls Tryd.prog 4 #[.string a0] u fun e w' => ∃ v', e = .returned v' ∧ Own u.heap.size w' v' L ∧ Below u.heap.size u w') := fun u => by rw [← hL]; exact sTagNames_any a0 u hs
  have HI : Hid (∀ u : World, Calls Tryd.prog 5 #[.string a0] u fun e w' => ∃ v', e = .returned v' ∧ Own u.heap.size w' v' L ∧ Below u.heap.size u w') := fun u => by rw [← hL]; exact iTagNames_any a0 u hs
  have HLL : Hid (L.length ≤ 1048576) := by show _ ≤ _; omega
  clear hL hml h
  go_enter Tryd.func3, Tryd.ntmps3
  go_wp2_with fail
  refine (HS.out _).mono ?_
  rintro e w1 ⟨r1, rfl, ho, hb⟩
  have W1 : Hid (TIn w.heap.size w1.heap.size w1 r1 L) := RowIn.of ho
  have HB1 := hide hb
  have hle1 := hb.size
  clear ho hb
  go_wp2_with fail
  refine (HI.out _).mono ?_
  rintro e w2 ⟨r2, rfl, ho, hb⟩
  have G2 : Hid (TIn w1.heap.size w2.heap.size w2 r2 L) := RowIn.of ho
  have W2 := hide ((unhide W1).below hb)
  have HB2 := hide ((unhide HB1).trans (hb.mono hle1))
  have hle2 := HB2.out.size
  have hs2 := hb.size
  clear ho hb W1
  go_wp2_with fail
  refine (eqStringS_any r2 r1 L L _ (unhide G2).srow (unhide W2).srow).mono ?_
  rw [show decide (L = L) = true by simp]
  rintro e w3 ⟨rfl, hb⟩
  have G3 := hide ((unhide G2).below hb)
  have W3 := hide ((unhide W2).below hb)
  have HB3 := hide ((unhide HB2).trans (hb.mono hle2))
  have hle3 := HB3.out.size
  have hs3 := hb.size
  clear hb G2 W2
  go_wp2_with fail
  refine (markStringS_any _ r2 L 1 _ (unhide G3).1 (by omega) (by omega) HLL.out).mono ?_
  rintro e w4 ⟨rfl, ho, hg⟩
  have hx := (unhide G3).out
  have W4 := hide ((unhide W3).grown hg (fun k hk => by have := hx k hk; omega))
  have HB4 : Hid (Below w.heap.size w w4) := (unhide HB3).grown hg hle3 (fun k hk => by have := hx k hk; omega)
  have hle4 := HB4.out.size
  have G4 := hide (Own.srow ho)
  clear ho hg hx G3 W3
  have hkp : decide (((1 + L.length : Nat) : Int) < 0) = false := by simp; omega
  have HEL : Hid (∀ u : World, SRow u r2 (marks 1 L.length) → Calls Tryd.prog 8 #[r2, .int .i64 1] u fun e w' => e = .returned (.int .i64 ((1 + L.length : Nat) : Int)) ∧ Below u.heap.size u w') := fun u hu => heldStringS_any r2 L.length 1 u hu (by omega) (by omega) HLL.out
  generalize 1 + L.length = m1 at hkp HEL ⊢
  go_wp2_with fail
  refine (HEL.out _ (unhide G4)).mono ?_
  rintro e w5 ⟨rfl, hb⟩
  have G5 := hide (SRow.below (unhide G4) hb)
  have W5 := hide ((unhide W4).below hb)
  have HB5 := hide ((unhide HB4).trans (hb.mono hle4))
  have hle5 := HB5.out.size
  clear hb G4 W4
  go_wp2_with fail
  refine (HI.out _).mono ?_
  rintro e w6 ⟨r6, rfl, ho, hb⟩
  have H6 := hide (Own.srow ho)
  have G6 := hide (SRow.below (unhide G5) hb)
  have W6 := hide ((unhide W5).below hb)
  have HB6 := hide ((unhide HB5).trans (hb.mono hle5))
  have hle6 := HB6.out.size
  clear ho hb G5 W5
  go_wp2_with fail
  refine (eqStringS_any r6 r1 L L _ (unhide H6) (unhide W6).srow).mono ?_
  rw [show decide (L = L) = true by simp]
  rintro e w7 ⟨rfl, hb⟩
  have G7 := hide (SRow.below (unhide G6) hb)
  have HB7 := hide ((unhide HB6).trans (hb.mono hle6))
  have hle7 := HB7.out.size
  clear hb G6 W6 H6
  go_wp2_with fail
  refine (HEL.out _ (unhide G7)).mono ?_
  rintro e w8 ⟨rfl, hb⟩
  have HB8 := hide ((unhide HB7).trans (hb.mono hle7))
  clear hb
  go_wp2_with fail
  go_ret
  exact ⟨rfl, unhide HB8⟩

theorem own : ownKnob Tryd.prog.godebug = none := by kernel_rfl
set_option maxRecDepth 100000 in
theorem lifted_FnExactTagNames (os : Os) (started : os.Started) (H : Type) (enc : TypeId × Value → H) :
    ReturnsInHanded {} Tryd.checked os 3 .any (fun w args => (Rows.fnExactTagNamesSpec.pre enc Tryd.prog Tryd.f3 [] false w args ∧ laidMetH Tryd.prog Rows.fnExactTagNamesRow.laid w) ∧ sizedMet enc Tryd.prog Tryd.f3 (OpenSpec.ofChange Rows.fnExactTagNamesSpec) false w args)
      (Rows.fnExactTagNamesSpec.post enc Tryd.prog Tryd.f3 false true false false) := by
  refine returnsInHanded_of_change_and (C := Tryd.checked) (X := fun w _ => laidMetH Tryd.prog Rows.fnExactTagNamesRow.laid w) (fun _ _ _ hh h => h.of_heap hh) own started (by kernel_rfl) Tryd.func3
    (ChangeSpec.witness_shaped (enc := enc) (C := Tryd.checked) (os := os) (X := fun w _ => laidMetH Tryd.prog Rows.fnExactTagNamesRow.laid w) false (World.laidAll Tryd.prog os Rows.fnExactTagNamesRow.laid) #[.string ByteArray.empty] 8 (World.laidAll_os _ _ _)
      (World.shaped_of_ZipB (by kernel_rfl) (by kernel_rfl)) (by kernel_rfl) (by kernel_rfl) (by kernel_rfl)
      (by rw [MakeChecks.laidMetH_plain _ _ _ (by kernel_rfl)]; exact laidMet_laidAll _ (by kernel_rfl) (by kernel_rfl))) ?_
  intro W base args ds gs before hval0 hW _ _ hL _
  have hval : ∀ (j : Nat) t v, Tryd.f3.params[j]? = some t → args[j]? = some v → Value.okWide Tryd.prog W .any base t v := hval0
  have hW' := hW
  obtain ⟨p, q, hA0, hV, rfl, _, _⟩ := hW
  have hA : DataW.TrodAll enc Tryd.prog W 0 (fun _ => true) true Tryd.f3.params.toList args.toList ds p := hA0
  rw [Tryd.params3 ] at hA hval
  obtain ⟨v0, d0, rfl, rfl, h0⟩ := trodAll_one hA
  obtain ⟨rfl, rfl⟩ := trodVars_none hV
  obtain ⟨a0, rfl, rfl, rfl, w0⟩ := open_string Tryd.underlying9 (hval 0 9 v0 rfl rfl) h0
  simp only [List.append_nil] at hW'
  refine (walk_FnExactTagNames a0 W w0).mono fun e W' ⟨he, bel⟩ => ?_
  subst he
  exact ⟨_, rfl, _, _, _, [], [], [], hW', trodAll_mk1 (shut_bool Tryd.underlying4 _), trodAll_mk1 (shut_string Tryd.underlying9 w0), rfl, bel.frame _, fun h => by cases h⟩

theorem row_holds : Rows.FnExactTagNamesSaid :=
  OpenClaim.holds_of_wide 3 Tryd.f3 rfl rfl rfl rfl rfl rfl rfl ⟨rfl, rfl, rfl, rfl, rfl⟩ rfl rfl rfl rfl rfl (by kernel_rfl) Tryd.func3 (by kernel_rfl)
    (of_decide_eq_true (by kernel_rfl)) (by unfold Func.isWrapper; first | (rw [if_pos (by decide +kernel)]; kernel_rfl) | (rw [if_neg (by decide +kernel)]; exact ⟨rfl, rfl⟩))
    (fun os started H enc _ => lifted_FnExactTagNames os started H enc)

theorem fnExactTagNames_holds : Rows.FnExactTagNamesCardSaid :=
  Claim7.holds_tied_plain_at .later [] [.data, .pinned] true Rows.fnExactTagNamesCard.stood.harness false row_holds (fun _ h => by cases h) (by kernel_rfl) (fun _ h => by cases h) fnExactTagNames_row_tie rfl ⟨rfl, rfl⟩ (by kernel_rfl) rfl
    (fun f fn hf hfn => by
      obtain rfl : f = 3 := Option.some.inj ((show Tryd.prog.funcNamed "loop.example/keyward/laws.FnExactTagNames" = some 3 by kernel_rfl).symm.trans hf) |>.symm
      obtain rfl : fn = Tryd.f3 := (Option.some.inj (Tryd.func3.symm.trans hfn)).symm
      exact ⟨by kernel_rfl, fun j t ht => by
        rw [Tryd.params3 ] at ht
        have hm : t ∈ [9] := by simpa using Array.mem_of_getElem? ht
        have hall : ([9].all fun u => !Tryd.prog.wantsStandIn u) = true := by kernel_rfl
        exact (show Tryd.prog.wantsStandIn t = false by simpa using List.all_eq_true.1 hall t hm)⟩)
    (by kernel_rfl)
#print axioms fnExactTagNames_holds
end Go.Proofs.YtabpaaahobakpaaDoor
