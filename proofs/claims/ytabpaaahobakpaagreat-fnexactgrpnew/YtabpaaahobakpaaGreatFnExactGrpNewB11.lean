/-
  The laws' own helpers over worlds of nothing; GrpNew of nobody.
-/
import Derived.Test.YtabpaaahobakpaaGreatFnExactGrpNewB1
import Derived.Test.YtabpaaahobakpaaGreatFnExactGrpNewB2
import Derived.Test.YtabpaaahobakpaaGreatFnExactGrpNewB8
import Derived.Test.YtabpaaahobakpaaGreatFnExactGrpNewB3
namespace Go.Proofs.YtabpaaahobakpaaGreat
open Go.RowKit

set_option maxRecDepth 100000 in
set_option maxHeartbeats 4000000 in
theorem eqWld0_any (w : World) : Calls Tryz.prog 13 #[.agg noWld, .agg noWld] w fun e w' => e = .returned (.bool true) ∧ Below w.heap.size w w' := by
  have HB : Hid (Below w.heap.size w ((w.alloc (.cells noWld 34)).alloc (.cells noWld 34))) := ((Below.refl _ _).alloc (Nat.le_refl _) _).alloc (by simp) _
  have A := hide ((Blk.new w 34 noWld).alloc (.cells noWld 34))
  have b0 := Blk.new (w.alloc (.cells noWld 34)) 34 noWld
  rw [World.size_alloc] at b0
  have B := hide b0
  clear b0
  go_enter Tryz.func13, Tryz.ntmps13
  go_wp2_with fail
  refine (eqE_MemMember _ _ _ _ _).mono ?_
  rintro e wz ⟨rfl, hz⟩
  replace hz := hz.symm
  subst hz
  have ca := (unhide A).cell 1
  have cb := (unhide B).cell 1
  simp only [List.getElem?_toArray, List.getElem?_cons_succ, List.getElem?_cons_zero] at ca cb
  go_wp2_with fail
  refine (eqE_GrpWait _ _ _ _ _).mono ?_
  rintro e wz ⟨rfl, hz⟩
  replace hz := hz.symm
  subst hz
  clear ca
  clear cb
  have ca := (unhide A).cell 2
  have cb := (unhide B).cell 2
  simp only [List.getElem?_toArray, List.getElem?_cons_succ, List.getElem?_cons_zero] at ca cb
  go_wp2_with fail
  refine (eqE_CmtCommit _ _ _ _ _).mono ?_
  rintro e wz ⟨rfl, hz⟩
  replace hz := hz.symm
  subst hz
  clear ca
  clear cb
  have ca := (unhide A).cell 3
  have cb := (unhide B).cell 3
  simp only [List.getElem?_toArray, List.getElem?_cons_succ, List.getElem?_cons_zero] at ca cb
  go_wp2_with fail
  refine (eqE_Int _ _ _ _ _).mono ?_
  rintro e wz ⟨rfl, hz⟩
  replace hz := hz.symm
  subst hz
  clear ca
  clear cb
  have ca := (unhide A).cell 4
  have cb := (unhide B).cell 4
  simp only [List.getElem?_toArray, List.getElem?_cons_succ, List.getElem?_cons_zero] at ca cb
  go_wp2_with fail
  refine (eqE_String _ _ _ _ _).mono ?_
  rintro e wz ⟨rfl, hz⟩
  replace hz := hz.symm
  subst hz
  clear ca
  clear cb
  have ca := (unhide A).cell 5
  have cb := (unhide B).cell 5
  simp only [List.getElem?_toArray, List.getElem?_cons_succ, List.getElem?_cons_zero] at ca cb
  go_wp2_with fail
  refine (eqE_GrpSteal _ _ _ _ _).mono ?_
  rintro e wz ⟨rfl, hz⟩
  replace hz := hz.symm
  subst hz
  clear ca
  clear cb
  have ca := (unhide A).cell 6
  have cb := (unhide B).cell 6
  simp only [List.getElem?_toArray, List.getElem?_cons_succ, List.getElem?_cons_zero] at ca cb
  go_wp2_with fail
  refine (eqE_FraFrame _ _ _ _ _).mono ?_
  rintro e wz ⟨rfl, hz⟩
  replace hz := hz.symm
  subst hz
  clear ca
  clear cb
  have ca := (unhide A).cell 7
  have cb := (unhide B).cell 7
  simp only [List.getElem?_toArray, List.getElem?_cons_succ, List.getElem?_cons_zero] at ca cb
  go_wp2_with fail
  refine (eqE_Int _ _ _ _ _).mono ?_
  rintro e wz ⟨rfl, hz⟩
  replace hz := hz.symm
  subst hz
  clear ca
  clear cb
  have ca := (unhide A).cell 8
  have cb := (unhide B).cell 8
  simp only [List.getElem?_toArray, List.getElem?_cons_succ, List.getElem?_cons_zero] at ca cb
  go_wp2_with fail
  refine (eqE_FraWinS _ _ _ _ _).mono ?_
  rintro e wz ⟨rfl, hz⟩
  replace hz := hz.symm
  subst hz
  clear ca
  clear cb
  have ca := (unhide A).cell 9
  have cb := (unhide B).cell 9
  simp only [List.getElem?_toArray, List.getElem?_cons_succ, List.getElem?_cons_zero] at ca cb
  go_wp2_with fail
  refine (eqE_GrpTold _ _ _ _ _).mono ?_
  rintro e wz ⟨rfl, hz⟩
  replace hz := hz.symm
  subst hz
  clear ca
  clear cb
  go_wp2_with fail
  go_ret
  exact ⟨rfl, unhide HB⟩

set_option maxRecDepth 100000 in
set_option maxHeartbeats 4000000 in
theorem markWld0_any (w : World) : Calls Tryz.prog 14 #[.agg noWld, .int .i64 1] w fun e w' => e = .returned (.int .i64 1) ∧ Below w.heap.size w w' := by
  have HB : Hid (Below w.heap.size w (w.alloc (.cells noWld 34))) := (Below.refl _ _).alloc (Nat.le_refl _) _
  have A := hide (Blk.new w 34 noWld)
  go_enter Tryz.func14, Tryz.ntmps14
  go_wp2_with fail
  refine (markE_MemMember _ _ (1 : Int) _).mono ?_
  rintro e wz ⟨rfl, hz⟩
  replace hz := hz.symm
  subst hz
  have ca := (unhide A).cell 1
  simp only [List.getElem?_toArray, List.getElem?_cons_succ, List.getElem?_cons_zero] at ca
  go_wp2_with fail
  refine (markE_GrpWait _ _ (1 : Int) _).mono ?_
  rintro e wz ⟨rfl, hz⟩
  replace hz := hz.symm
  subst hz
  clear ca
  have ca := (unhide A).cell 2
  simp only [List.getElem?_toArray, List.getElem?_cons_succ, List.getElem?_cons_zero] at ca
  go_wp2_with fail
  refine (markE_CmtCommit _ _ (1 : Int) _).mono ?_
  rintro e wz ⟨rfl, hz⟩
  replace hz := hz.symm
  subst hz
  clear ca
  have ca := (unhide A).cell 3
  simp only [List.getElem?_toArray, List.getElem?_cons_succ, List.getElem?_cons_zero] at ca
  go_wp2_with fail
  refine (markE_Int _ _ (1 : Int) _).mono ?_
  rintro e wz ⟨rfl, hz⟩
  replace hz := hz.symm
  subst hz
  clear ca
  have ca := (unhide A).cell 4
  simp only [List.getElem?_toArray, List.getElem?_cons_succ, List.getElem?_cons_zero] at ca
  go_wp2_with fail
  refine (markE_String _ _ (1 : Int) _).mono ?_
  rintro e wz ⟨rfl, hz⟩
  replace hz := hz.symm
  subst hz
  clear ca
  have ca := (unhide A).cell 5
  simp only [List.getElem?_toArray, List.getElem?_cons_succ, List.getElem?_cons_zero] at ca
  go_wp2_with fail
  refine (markE_GrpSteal _ _ (1 : Int) _).mono ?_
  rintro e wz ⟨rfl, hz⟩
  replace hz := hz.symm
  subst hz
  clear ca
  have ca := (unhide A).cell 6
  simp only [List.getElem?_toArray, List.getElem?_cons_succ, List.getElem?_cons_zero] at ca
  go_wp2_with fail
  refine (markE_FraFrame _ _ (1 : Int) _).mono ?_
  rintro e wz ⟨rfl, hz⟩
  replace hz := hz.symm
  subst hz
  clear ca
  have ca := (unhide A).cell 7
  simp only [List.getElem?_toArray, List.getElem?_cons_succ, List.getElem?_cons_zero] at ca
  go_wp2_with fail
  refine (markE_Int _ _ (1 : Int) _).mono ?_
  rintro e wz ⟨rfl, hz⟩
  replace hz := hz.symm
  subst hz
  clear ca
  have ca := (unhide A).cell 8
  simp only [List.getElem?_toArray, List.getElem?_cons_succ, List.getElem?_cons_zero] at ca
  go_wp2_with fail
  refine (markE_FraWinS _ _ (1 : Int) _).mono ?_
  rintro e wz ⟨rfl, hz⟩
  replace hz := hz.symm
  subst hz
  clear ca
  have ca := (unhide A).cell 9
  simp only [List.getElem?_toArray, List.getElem?_cons_succ, List.getElem?_cons_zero] at ca
  go_wp2_with fail
  refine (markE_GrpTold _ _ (1 : Int) _).mono ?_
  rintro e wz ⟨rfl, hz⟩
  replace hz := hz.symm
  subst hz
  clear ca
  go_wp2_with fail
  go_ret
  exact ⟨rfl, unhide HB⟩

set_option maxRecDepth 100000 in
set_option maxHeartbeats 4000000 in
theorem heldWld0_any (w : World) : Calls Tryz.prog 15 #[.agg noWld, .int .i64 1] w fun e w' => e = .returned (.int .i64 1) ∧ Below w.heap.size w w' := by
  have HB : Hid (Below w.heap.size w (w.alloc (.cells noWld 34))) := (Below.refl _ _).alloc (Nat.le_refl _) _
  have A := hide (Blk.new w 34 noWld)
  go_enter Tryz.func15, Tryz.ntmps15
  go_wp2_with fail
  refine (heldE_MemMember _ _ (1 : Int) _).mono ?_
  rintro e wz ⟨rfl, hz⟩
  replace hz := hz.symm
  subst hz
  have ca := (unhide A).cell 1
  simp only [List.getElem?_toArray, List.getElem?_cons_succ, List.getElem?_cons_zero] at ca
  go_wp2_with fail
  refine (heldE_GrpWait _ _ (1 : Int) _).mono ?_
  rintro e wz ⟨rfl, hz⟩
  replace hz := hz.symm
  subst hz
  clear ca
  have ca := (unhide A).cell 2
  simp only [List.getElem?_toArray, List.getElem?_cons_succ, List.getElem?_cons_zero] at ca
  go_wp2_with fail
  refine (heldE_CmtCommit _ _ (1 : Int) _).mono ?_
  rintro e wz ⟨rfl, hz⟩
  replace hz := hz.symm
  subst hz
  clear ca
  have ca := (unhide A).cell 3
  simp only [List.getElem?_toArray, List.getElem?_cons_succ, List.getElem?_cons_zero] at ca
  go_wp2_with fail
  refine (heldE_Int _ _ (1 : Int) _).mono ?_
  rintro e wz ⟨rfl, hz⟩
  replace hz := hz.symm
  subst hz
  clear ca
  have ca := (unhide A).cell 4
  simp only [List.getElem?_toArray, List.getElem?_cons_succ, List.getElem?_cons_zero] at ca
  go_wp2_with fail
  refine (heldE_String _ _ (1 : Int) _).mono ?_
  rintro e wz ⟨rfl, hz⟩
  replace hz := hz.symm
  subst hz
  clear ca
  have ca := (unhide A).cell 5
  simp only [List.getElem?_toArray, List.getElem?_cons_succ, List.getElem?_cons_zero] at ca
  go_wp2_with fail
  refine (heldE_GrpSteal _ _ (1 : Int) _).mono ?_
  rintro e wz ⟨rfl, hz⟩
  replace hz := hz.symm
  subst hz
  clear ca
  have ca := (unhide A).cell 6
  simp only [List.getElem?_toArray, List.getElem?_cons_succ, List.getElem?_cons_zero] at ca
  go_wp2_with fail
  refine (heldE_FraFrame _ _ (1 : Int) _).mono ?_
  rintro e wz ⟨rfl, hz⟩
  replace hz := hz.symm
  subst hz
  clear ca
  have ca := (unhide A).cell 7
  simp only [List.getElem?_toArray, List.getElem?_cons_succ, List.getElem?_cons_zero] at ca
  go_wp2_with fail
  refine (heldE_Int _ _ (1 : Int) _).mono ?_
  rintro e wz ⟨rfl, hz⟩
  replace hz := hz.symm
  subst hz
  clear ca
  have ca := (unhide A).cell 8
  simp only [List.getElem?_toArray, List.getElem?_cons_succ, List.getElem?_cons_zero] at ca
  go_wp2_with fail
  refine (heldE_FraWinS _ _ (1 : Int) _).mono ?_
  rintro e wz ⟨rfl, hz⟩
  replace hz := hz.symm
  subst hz
  clear ca
  have ca := (unhide A).cell 9
  simp only [List.getElem?_toArray, List.getElem?_cons_succ, List.getElem?_cons_zero] at ca
  go_wp2_with fail
  refine (heldE_GrpTold _ _ (1 : Int) _).mono ?_
  rintro e wz ⟨rfl, hz⟩
  replace hz := hz.symm
  subst hz
  clear ca
  go_wp2_with fail
  go_ret
  exact ⟨rfl, unhide HB⟩

set_option maxHeartbeats 1000000 in
theorem iGrpNew_no (p : Int) (w : World) (h : p < 0 ∨ 8 ≤ p) : Calls Tryz.prog 6 #[.int .i64 p] w fun e w' => e = .returned (.agg noWld) ∧ Below w.heap.size w w' := by
  have HB : Hid (Below w.heap.size w (w.alloc (.cells noWld 34))) := (Below.refl _ _).alloc (Nat.le_refl _) _
  have A := hide (Blk.new w 34 noWld)
  go_enter Tryz.func6, Tryz.ntmps6
  go_wp2_with fail
  refine (isOne_no p _ h).mono ?_
  rintro e wz ⟨rfl, hz⟩
  replace hz := hz.symm
  subst hz
  go_wp2_with fail
  have lw := load_wld (unhide A) rfl
  refine bodyPost_ret (v := .agg noWld) (results_cell rfl rfl lw) rfl ?_
  exact ⟨rfl, HB.out⟩
set_option maxHeartbeats 1000000 in
theorem sGrpNew_no (p : Int) (w : World) (h : p < 0 ∨ 8 ≤ p) : Calls Tryz.prog 8 #[.int .i64 p] w fun e w' => e = .returned (.agg noWld) ∧ Below w.heap.size w w' := by
  have HB : Hid (Below w.heap.size w (w.alloc (.cells noWld 34))) := (Below.refl _ _).alloc (Nat.le_refl _) _
  have A := hide (Blk.new w 34 noWld)
  have hin : inB 0 7 p = false := by unfold inB; simp; omega
  go_enter Tryz.func8, Tryz.ntmps8
  go_wp2_with fail
  refine (l1In_any p 0 7 _).mono ?_
  rw [hin]
  rintro e wz ⟨rfl, hz⟩
  replace hz := hz.symm
  subst hz
  go_wp2_with fail
  have lw := load_wld (unhide A) rfl
  refine bodyPost_ret (v := .agg noWld) (results_cell rfl rfl lw) rfl ?_
  exact ⟨rfl, HB.out⟩
end Go.Proofs.YtabpaaahobakpaaGreat
