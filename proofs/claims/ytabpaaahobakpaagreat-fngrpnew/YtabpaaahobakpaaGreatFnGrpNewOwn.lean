/-
  Proved: at every code the law FnGrpNew returns true (of GrpNew just that one is in, alone; nothing was sent, said or stolen), and nothing that was there is written. No condition.
-/
import Derived.Test.YtabpaaahobakpaaGreatFnGrpNewB2
import Derived.Test.YtabpaaahobakpaaGreatFnGrpNewB10
import Derived.Test.YtabpaaahobakpaaGreatFnGrpNewB12
import Derived.Test.YtabpaaahobakpaaGreatFnGrpNewB5
namespace Go.Proofs.YtabpaaahobakpaaGreat
open Go.ChangeShapes Go.WideShapes Go.ChangeAt Go.RowKit
open Go.ChangeMaps (open_string shut_string)
set_option linter.unusedVariables false

theorem one_row' (w : World) (x : Int) (t : TypeId) : IRow (w.alloc (.cells #[.int .i64 x] t)) (.slice (some ⟨w.heap.size, 0, none⟩) 1 1) [x] := by
  refine .inr ⟨⟨w.heap.size, 0, none⟩, 1, rfl, Nat.le_refl _, by unfold maxLen; omega, fun i hi => ?_⟩
  obtain rfl : i = 0 := by simpa using hi
  simp [Addr.add, go_sem]
/-- Who is in, seat by seat. -/
theorem newP_inn {w : World} {g0 n0 c0 who : Nat} {x1 x2 x3 x4 x5 x6 x7 x8 x9 : Value} {fr sd : List Int} {n : Nat} (hw : who < 8)
    (h : NewP w (.agg (wldC (.slice (some ⟨g0, 0, none⟩) n0 c0) x1 x2 x3 x4 x5 x6 x7 x8 x9)) (newW who).seats fr sd n) (j : Nat) (hj : j < 8) : w.cell? ⟨g0, j * 7, none⟩ = some (.bool (decide (j = who))) := by
  obtain ⟨s0, s3, s7, s8, a1, a2, a4, a5, a6, a9, p1, p2, p4, p5, p6, p9, e, ⟨g, c, rfl, h0⟩, _⟩ := h
  simp only [Value.agg.injEq, Array.mk.injEq, List.cons.injEq, Value.slice.injEq, Option.some.injEq, Addr.mk.injEq, and_true] at e
  obtain ⟨⟨rfl, _⟩, _⟩ := e
  have hs := seat_new (who := who) hj
  obtain ⟨ks, os, h1, _⟩ := h0 j _ hs
  have h2 : w.cell? ⟨g0, j * 7, none⟩ = some (.bool (if j = who then fstOf (who : Int) (mkNew (who : Int) 1) (mkNew (who : Int) 2) else Mem.none).inn) := h1 0 _ rfl
  rw [h2]
  by_cases e : j = who
  · rw [if_pos e, (seat_who hw rfl).1, decide_eq_true e]
  · rw [if_neg e, decide_eq_false e]
    rfl
/-- Its own tree. -/
theorem newP_tree {w : World} {g0 n0 c0 who : Nat} {x1 x2 x3 x4 x5 x6 x7 x8 x9 : Value} {fr sd : List Int} {n : Nat} {m : Mem} (hm : fstOf (who : Int) (mkNew (who : Int) 1) (mkNew (who : Int) 2) = m) (hw : who < 8)
    (h : NewP w (.agg (wldC (.slice (some ⟨g0, 0, none⟩) n0 c0) x1 x2 x3 x4 x5 x6 x7 x8 x9)) (newW who).seats fr sd n) : ∃ ks, w.cell? ⟨g0, who * 7 + 2, none⟩ = some ks ∧ SRow w ks m.keys := by
  obtain ⟨s0, s3, s7, s8, a1, a2, a4, a5, a6, a9, p1, p2, p4, p5, p6, p9, e, ⟨g, c, rfl, h0⟩, _⟩ := h
  simp only [Value.agg.injEq, Array.mk.injEq, List.cons.injEq, Value.slice.injEq, Option.some.injEq, Addr.mk.injEq, and_true] at e
  obtain ⟨⟨rfl, _⟩, _⟩ := e
  have hs := seat_new (who := who) hw
  rw [if_pos rfl, hm] at hs
  obtain ⟨ks, os, h1, h2, _⟩ := h0 who _ hs
  exact ⟨ks, h1 2 _ rfl, h2⟩

set_option maxRecDepth 100000 in
set_option maxHeartbeats 8000000 in
theorem walk_FnGrpNew (a0 : Option Addr) (len0 cap0 : Nat) (z0 : List Int) (w : World) (w0 : IsRow .u8 w a0 len0 cap0 z0) :
    Calls Tryz.prog 3 #[.slice a0 len0 cap0] w fun e w' => e = .returned (.bool true) ∧ Below w.heap.size w w' := by
  have hR := hide w0
  clear w0
  by_cases h : (1048576 : Int) < (len0 : Int)
  · go_enter Tryz.func3, Tryz.ntmps3
    go_wp2_with fail
    go_ret
    exact ⟨rfl, Below.refl _ _⟩
  have h2 : decide ((1048576 : Int) < (len0 : Int)) = false := by simpa using h
  clear h
  go_enter Tryz.func3, Tryz.ntmps3
  go_wp2_with fail
  refine (DrawGrpNew_any a0 len0 cap0 z0 _ (unhide hR)).mono ?_
  rintro e w1 ⟨p, rfl, hp0, hp1, hb1⟩
  have HB1 := hide hb1
  have hle1 := hb1.size
  clear hb1 hR
  by_cases hin : 0 ≤ p ∧ p < 8
  · obtain ⟨who, rfl⟩ : ∃ k : Nat, p = (k : Int) := ⟨p.toNat, by omega⟩
    have hw : who < 8 := by omega
    obtain ⟨m, hm⟩ : ∃ m, fstOf (who : Int) (mkNew (who : Int) 1) (mkNew (who : Int) 2) = m := ⟨_, rfl⟩
    have HM := hide hm
    have HW := hide hw
    have HL := hide (len_new who)
    have HFR := hide (fresh_new hw)
    have hlt0 : decide ((who : Int) < 0) = false := by simp
    have hge8 : decide ((8 : Int) ≤ (who : Int)) = false := by simp; omega
    clear hm hin hp0 hp1
    go_wp2_with fail
    refine (iGrpNew_any who _ HW.out m HM.out).mono ?_
    rintro e w2 ⟨g0, g3, g7, g8, ks, os, rfl, r0, rk, ro, r3, r7, r8, hne, hb2⟩
    have I2 : OwnI w1.heap.size w2 (.slice (some ⟨g3, 0, none⟩) 8 8) (newW who).fresh := by
      unfold OwnI
      rw [← HFR.out, HL.out.2.1]
      exact r3
    have al : Below w2.heap.size w2 (w2.alloc (.cells (wldC (.slice (some ⟨g0, 0, none⟩) 8 8) (.slice none 0 0) (.slice none 0 0) (.slice (some ⟨g3, 0, none⟩) 8 8) (.slice none 0 0) (.slice none 0 0) (.slice none 0 0) (.slice (some ⟨g7, 0, none⟩) 8 8) (.slice (some ⟨g8, 0, none⟩) 8 8) (.slice none 0 0)) 34)) := (Below.refl _ _).alloc (Nat.le_refl _) _
    have G := hide (NewP.below (newP_own HM.out none none none none none none 0 0 0 0 0 0 r0 rk ro I2 r7 r8) al)
    have A := hide (Blk.new w2 34 (wldC (.slice (some ⟨g0, 0, none⟩) 8 8) (.slice none 0 0) (.slice none 0 0) (.slice (some ⟨g3, 0, none⟩) 8 8) (.slice none 0 0) (.slice none 0 0) (.slice none 0 0) (.slice (some ⟨g7, 0, none⟩) 8 8) (.slice (some ⟨g8, 0, none⟩) 8 8) (.slice none 0 0)))
    have HB : Hid (Below w.heap.size w (w2.alloc (.cells (wldC (.slice (some ⟨g0, 0, none⟩) 8 8) (.slice none 0 0) (.slice none 0 0) (.slice (some ⟨g3, 0, none⟩) 8 8) (.slice none 0 0) (.slice none 0 0) (.slice none 0 0) (.slice (some ⟨g7, 0, none⟩) 8 8) (.slice (some ⟨g8, 0, none⟩) 8 8) (.slice none 0 0)) 34))) := (HB1.out.trans (hb2.mono hle1)).alloc (Nat.le_trans hle1 hb2.size) _
    clear r0 rk ro r3 r7 r8 I2 hne hb2 al HB1
    go_wp2_with fail
    generalize w2.alloc (.cells (wldC (.slice (some ⟨g0, 0, none⟩) 8 8) (.slice none 0 0) (.slice none 0 0) (.slice (some ⟨g3, 0, none⟩) 8 8) (.slice none 0 0) (.slice none 0 0) (.slice none 0 0) (.slice (some ⟨g7, 0, none⟩) 8 8) (.slice (some ⟨g8, 0, none⟩) 8 8) (.slice none 0 0)) 34) = W at *
    generalize w2.heap.size = B at *
    refine r_i Later ?_
    refine r_q 0 ?_ (h := by
      intro w' hw'
      have x := (Blk.below (w := W.drew) (unhide A) hw').c10
      go_simp
      all_goals rfl)
    refine r_q 1 ?_
    refine r_1 2 (fun K hK => ?_)
    go_simp
    refine (sGrpNew_new who _ HW.out).mono ?_
    rintro e w3 ⟨a0, a1, a2, a3, a4, a5, a6, a7, a8, a9, l0, l1, l2, l3, l4, l5, l6, l7, l8, l9, c0, c1, c2, c3, c4, c5, c6, c7, c8, c9, rfl, hp3, hb3⟩
    go_simp
    refine hK.out _ _ hb3 ?_
    clear hK
    have A3 := hide (Blk.below (w := W.drew) (unhide A) hb3)
    have G3 := hide (NewP.below (w := W.drew) (unhide G) hb3)
    have P3 := hide hp3
    have HB3 := hide (HB.out.drew.trans (hb3.mono HB.out.size))
    clear hp3 hb3 A G HB
    try simp only [Act.put, List.setIfInBounds_toArray, List.set_cons_zero, List.set_cons_succ]
    refine r_1 3 (fun K hK => ?_)
    go_simp
    refine (keWld_any _ _ (newW who).seats (newW who).fresh (newW who).said 8 _ (by have := HL.out.1; omega) (by omega) (unhide G3) (unhide P3)).mono ?_
    rintro e w4 ⟨rfl, hb⟩
    go_simp
    refine hK.out _ _ hb ?_
    clear hK
    have A4 := hide ((unhide A3).below hb)
    have G4 := hide (NewP.below (unhide G3) hb)
    have HB4 := hide (HB3.out.trans (hb.mono HB3.out.size))
    clear hb A3 G3 P3 HB3
    try simp only [Act.put, List.setIfInBounds_toArray, List.set_cons_zero, List.set_cons_succ]
    refine r_q 4 ?_
    refine r_e ?_
    go_wp2_with fail
    go_loop [5] (fun i => ∃ j : Nat, j ≤ 8 ∧ i = .int .i64 (j : Int)) (fun i => 8 - (intOf i).toNat)
    case atStart => exact ⟨0, by omega, rfl⟩
    case round =>
      obtain ⟨j, hj, rfl⟩ := hrel
      by_cases hlt : j < 8
      · have hlt2 : (j : Int) < 8 := by omega
        have i3 : IntKind.i64.wrap ((j : Int) + 1) = (j : Int) + 1 := by simp [IntKind.wrap, IntKind.bits, IntKind.signed]; omega
        have x0 := newP_inn HW.out (unhide G4) j hlt
        have ca := (unhide A4).cell 0
        simp only [List.getElem?_toArray, List.getElem?_cons_zero] at ca
        by_cases hjw : j = who
        · rw [decide_eq_true hjw] at x0
          subst hjw
          go_wp2_with fail
          go_round
          case rel => exact ⟨j + 1, by omega, by simp⟩
          case measure => simp [intOf]; omega
        · rw [decide_eq_false hjw] at x0
          have e1 : decide ((j : Int) = (who : Int)) = false := by simp; omega
          go_wp2_with fail
          go_round
          case rel => exact ⟨j + 1, by omega, by simp⟩
          case measure => simp [intOf]; omega
      · have hlt2 : decide ((j : Int) < 8) = false := by simp; omega
        have hjn : j = 8 := by omega
        subst hjn
        rw [show ((8 : Nat) : Int) = 8 from rfl] at *
        obtain ⟨kv, hk0, hk1⟩ := newP_tree HM.out HW.out (unhide G4)
        obtain ⟨ka, kc, rfl, _, _, _⟩ := hk1.form
        generalize hkl : m.keys.length = kl at *
        have KL := hide hkl
        have HK := hide hk1
        clear hkl hk1
        have lw := load_wld (unhide A4) rfl
        go_wp2_with (refine wpList_load_whole rfl 34 _ rfl ⟨B, 0, none⟩ rfl _ lw ?_)
        refine (iGrpOk_new _ _ _ _ _ HL.out.1 HL.out.2.1 HL.out.2.2.1 (unhide G4) (fun k m hm => seatK_new HW.out k m hm) fresh_99 said_999).mono ?_
        rintro e w5 ⟨rfl, hb⟩
        have A5 := hide ((unhide A4).below hb)
        have T5 : Hid (w5.cell? ⟨g0, who * 7 + 2, none⟩ = some (.slice ka kl kc)) := (hb.cell (cell_lt hk0)).trans hk0
        have K5 := hide ((unhide HK).below hb)
        have HB5 := hide (HB4.out.trans (hb.mono HB4.out.size))
        clear hb A4 G4 hk0 HK HB4 lw
        have ca := (unhide A5).cell 0
        have x0 := T5.out
        simp only [List.getElem?_toArray, List.getElem?_cons_zero] at ca
        go_wp2_with fail
        clear ca x0
        have hsw := seat_who HW.out HM.out
        refine (iTreIn_any _ m.keys _ (unhide K5) hsw.2.2).mono ?_
        rw [hsw.2.1]
        clear hsw
        rintro e w6 ⟨u, rfl, ho, hb⟩
        have A6 := hide ((unhide A5).below hb)
        have U6 := hide (OwnI.irow ho)
        have HB6 := hide (HB5.out.trans (hb.mono HB5.out.size))
        clear ho hb A5 T5 K5 HB5
        go_wp2_with fail
        have al : Below w6.heap.size w6 (w6.alloc (.cells #[.int .i64 (who : Int)] 3)) := (Below.refl _ _).alloc (Nat.le_refl _) _
        refine (keInts_any _ _ _ _ _ (IRow.below (unhide U6) al) (one_row' w6 (who : Int) 3)).mono ?_
        rw [show decide ([(who : Int)] = [(who : Int)]) = true by simp]
        rintro e w7 ⟨rfl, hb⟩
        have A7 := hide (((unhide A6).below al).below hb)
        have HB7 : Hid (Below w.heap.size w w7) := (HB6.out.alloc HB6.out.size _).trans (hb.mono (by have := HB6.out.size; rw [World.size_alloc]; omega))
        clear hb al A6 U6 HB6
        have x := A7.out.c10
        go_wp2_with fail
        go_ret
        exact ⟨rfl, unhide HB7⟩
  · have hno : p < 0 ∨ 8 ≤ p := by omega
    have HP := hide hno
    have hor : (decide (p < 0) = true) ∨ (decide (p < 0) = false ∧ decide ((8 : Int) ≤ p) = true) := by simp; omega
    go_wp2_with fail
    refine (iGrpNew_no p _ HP.out).mono ?_
    rintro e w2 ⟨rfl, hb2⟩
    have A := hide (Blk.new w2 34 noWld)
    have HB : Hid (Below w.heap.size w (w2.alloc (.cells noWld 34))) := (HB1.out.trans (hb2.mono hle1)).alloc (Nat.le_trans hle1 hb2.size) _
    clear hb2 HB1
    go_wp2_with fail
    generalize w2.alloc (.cells noWld 34) = W at *
    generalize w2.heap.size = B at *
    refine r_i Later ?_
    refine r_q 0 ?_ (h := by
      intro w' hw'
      have x := (Blk.below (w := W.drew) (unhide A) hw').c10
      go_simp
      all_goals rfl)
    refine r_q 1 ?_
    refine r_1 2 (fun K hK => ?_)
    go_simp
    refine (sGrpNew_no p _ HP.out).mono ?_
    rintro e w3 ⟨rfl, hb3⟩
    go_simp
    refine hK.out _ _ hb3 ?_
    clear hK
    have A3 := hide (Blk.below (w := W.drew) (unhide A) hb3)
    have HB3 := hide (HB.out.drew.trans (hb3.mono HB.out.size))
    clear hb3 A HB
    try simp only [Act.put, List.setIfInBounds_toArray, List.set_cons_zero, List.set_cons_succ]
    refine r_1 3 (fun K hK => ?_)
    go_simp
    refine (keWld0_any _).mono ?_
    rintro e w4 ⟨rfl, hb⟩
    go_simp
    refine hK.out _ _ hb ?_
    clear hK
    have A4 := hide ((unhide A3).below hb)
    have HB4 := hide (HB3.out.trans (hb.mono HB3.out.size))
    clear hb A3 HB3
    try simp only [Act.put, List.setIfInBounds_toArray, List.set_cons_zero, List.set_cons_succ]
    refine r_q 4 ?_
    refine r_e ?_
    have x := A4.out.c10
    rcases hor with h1 | ⟨h1, h3⟩
    · go_wp2_with fail
      refine (keOk_any _).mono ?_
      rintro e w6 ⟨rfl, hb6⟩
      have HB6 := hide (HB4.out.trans (hb6.mono HB4.out.size))
      clear hb6
      go_wp2_with fail
      go_ret
      exact ⟨rfl, unhide HB6⟩
    · go_wp2_with fail
      refine (keOk_any _).mono ?_
      rintro e w6 ⟨rfl, hb6⟩
      have HB6 := hide (HB4.out.trans (hb6.mono HB4.out.size))
      clear hb6
      go_wp2_with fail
      go_ret
      exact ⟨rfl, unhide HB6⟩

set_option maxRecDepth 100000 in
theorem lifted_FnGrpNew (os : Os) (started : os.Started) (H : Type) (enc : TypeId × Value → H) :
    ReturnsInHanded {} Tryz.checked os 3 .any (Rows.fnGrpNewSpec.pre6 enc Tryz.prog Tryz.f3 Rows.fnGrpNewRow.domain false) (Rows.fnGrpNewSpec.post enc Tryz.prog Tryz.f3 false true false false) := by
  refine returnsInHanded_of_change (C := Tryz.checked) own started (by kernel_rfl) Tryz.func3
    (ChangeSpec.witness6 (enc := enc) (C := Tryz.checked) false ⟨#[], #[.slice none 0 0], []⟩ 8 (by kernel_rfl) (by kernel_rfl) (by kernel_rfl) (by kernel_rfl)) ?_
  intro W base args ds gs before hval0 hW hcnd _
  have hval : ∀ (j : Nat) t v, Tryz.f3.params[j]? = some t → args[j]? = some v → Value.okWide Tryz.prog W .any base t v := hval0
  have hW' := hW
  obtain ⟨p, q, hA0, hV, rfl, hfz, hnd⟩ := hW
  have hA : DataW.TrodAll enc Tryz.prog W 0 (fun _ => true) true Tryz.f3.params.toList args.toList ds p := hA0
  rw [Tryz.params3] at hA hval
  obtain ⟨v0, vs0, d0, ds0, p0, q0, hargs, rfl, rfl, h0, r0⟩ := trodAll_cons hA
  obtain ⟨rfl, rfl, rfl⟩ := trodAll_nil r0
  obtain rfl : args = #[v0] := by cases args; simp_all
  obtain ⟨rfl, rfl⟩ := trodVars_none hV
  obtain ⟨a0, len0, cap0, rfl⟩ := okWide_slice Tryz.underlying22 (hval 0 22 v0 rfl rfl)
  have k0 := h0
  have lt0 : ∀ x ∈ p0, x.block < W.heap.size := by obtain ⟨m, hm⟩ := k0; exact DataW.trod_lt m _ _ _ hm
  obtain ⟨z0, w0⟩ : ∃ zs, IsRow .u8 W a0 len0 cap0 zs := by
    obtain ⟨fuel, hf⟩ := h0
    rcases open_ints Tryz.underlying22 Tryz.underlying5 (by kernel_rfl) hf with ⟨hcs, _⟩ | ⟨x, l, c, zs, hcs, _, hl, hm, hz, _, hcell, hwz⟩
    · simp [Value.cells] at hcs
      obtain ⟨rfl, rfl, rfl⟩ := hcs
      exact ⟨[], .inl ⟨rfl, rfl, rfl, rfl⟩⟩
    · simp [Value.cells] at hcs
      obtain ⟨rfl, rfl, rfl⟩ := hcs
      exact ⟨zs, .inr ⟨_, rfl, hl, hm, by simpa using hz, hcell, hwz⟩⟩
  clear hA0 hval0
  refine (walk_FnGrpNew a0 len0 cap0 z0 W w0).mono fun e W' ⟨he, bel⟩ => ?_
  subst he
  exact ⟨_, rfl, _, _, _, [], _, [], hW', trodAll_mk1 (shut_bool Tryz.underlying4 _), (trodAll_cons_mk (Below.trod laidOut (by kernel_rfl) (of_decide_eq_true (by kernel_rfl)) k0 bel lt0) trodAll_mk0), rfl, bel.frame _, fun h => by cases h⟩

theorem fnGrpNew_holds : Rows.FnGrpNewSaid :=
  OpenClaim.holds_of_wide 3 Tryz.f3 rfl rfl rfl rfl rfl rfl rfl ⟨rfl, rfl, rfl, rfl, rfl⟩ rfl rfl rfl rfl rfl (by kernel_rfl) Tryz.func3 (by kernel_rfl)
    (of_decide_eq_true (by kernel_rfl)) (by unfold Func.isWrapper; first | (rw [if_pos (by decide +kernel)]; kernel_rfl) | (rw [if_neg (by decide +kernel)]; exact ⟨rfl, rfl⟩))
    (fun os started H enc _ => lifted_FnGrpNew os started H enc)

end Go.Proofs.YtabpaaahobakpaaGreat
