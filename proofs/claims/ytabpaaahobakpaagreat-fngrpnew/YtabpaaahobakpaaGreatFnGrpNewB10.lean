/-
  The program's MemFirst.
-/
import Derived.Test.YtabpaaahobakpaaGreatFnGrpNewB7
import Derived.Test.YtabpaaahobakpaaGreatFnGrpNewB9
import Derived.Test.YtabpaaahobakpaaGreatFnGrpNewB4
import Derived.Test.YtabpaaahobakpaaGreatFnGrpNewB8
import Derived.Test.YtabpaaahobakpaaGreatFnGrpNewB2
import Derived.Test.YtabpaaahobakpaaGreatFnGrpNewB5
namespace Go.Proofs.YtabpaaahobakpaaGreat
open Go.RowKit

theorem treOk_bare : treOk bare = true := by decide

set_option maxRecDepth 100000 in
set_option maxHeartbeats 4000000 in
theorem iMemFirst_any (p : Int) (s t : ByteArray) (w : World) (hs : s.size ≤ maxLen) (ht : t.size ≤ maxLen) :
    Calls Tryz.prog 22 #[.int .i64 p, .string s, .string t] w fun e w' => ∃ v, e = .returned v ∧ MemO w.heap.size w' v (fstOf p s t) ∧ Below w.heap.size w w' := by
  have HS := hide hs
  have HT := hide ht
  unfold maxLen at hs ht
  have HB0 : Hid (Below w.heap.size w (w.alloc (.cells noMem 42))) := (Below.refl _ _).alloc (Nat.le_refl _) _
  have A0 := hide (Blk.new w 42 noMem)
  have hs0 : (w.alloc (.cells noMem 42)).heap.size = w.heap.size + 1 := by simp
  by_cases hp : 0 ≤ p ∧ p ≤ 7
  · obtain ⟨k, rfl⟩ : ∃ k : Nat, p = (k : Int) := ⟨p.toNat, by omega⟩
    have hk8 : k < 8 := by omega
    have HK8 := hide hk8
    clear hp
    go_enter Tryz.func22, Tryz.ntmps22
    go_wp2_with fail
    refine (isOne_yes _ _ (by omega) (by omega)).mono ?_
    rintro e wa ⟨rfl, rfl⟩
    go_wp2_with fail
    refine (mayBeSet_any s _ HS.out).mono ?_
    rintro e w1 ⟨rfl, hb1⟩
    have A1 := hide ((unhide A0).below hb1)
    have HB1 := hide (HB0.out.trans (hb1.mono HB0.out.size))
    have hs1 := hb1.size
    rw [hs0] at hs1
    clear hb1 A0 HB0 hs0
    cases hos : maySet s with
    | false =>
      have HE : Hid (¬ fstOk (k : Int) s t) := by show ¬ _; unfold fstOk; rw [hos]; simp
      have l1 := load_mm ((unhide A1).set noMem) rfl
      have HB2 := hide (below_blk (unhide HB1) (Nat.le_refl _) noMem)
      clear hos
      go_wp2_with (refine wpList_store_whole rfl 42 _ _ rfl w.heap.size noMem rfl rfl 42 _ (unhide A1) info_mm rfl (one_mm _ _ _ _ _ _ _ _ _ _ _) ?_)
      refine bodyPost_ret (v := .agg noMem) (results_cell rfl rfl l1) rfl ⟨_, rfl, ?_, unhide HB2⟩
      rw [fst_no HE.out]
      exact MemO.none _ _
    | true =>
      have HOS := hide hos
      have HSZ : Hid (s.size ≤ 292) := by show _ ≤ _; unfold maySet at hos; simp at hos; exact hos.2
      clear hos
      go_wp2_with fail
      refine (iSecOk_any t _ HT.out).mono ?_
      rintro e w2 ⟨rfl, hb2⟩
      have A2 := hide ((unhide A1).below hb2)
      have HB2 := hide (HB1.out.trans (hb2.mono HB1.out.size))
      have hs2 := hb2.size
      clear hb2 A1 HB1
      cases hot : Kw.ok t with
      | false =>
        have HE : Hid (¬ fstOk (k : Int) s t) := by show ¬ _; unfold fstOk; rw [hot]; simp
        have l1 := load_mm ((unhide A2).set noMem) rfl
        have HB3 := hide (below_blk (unhide HB2) (Nat.le_refl _) noMem)
        clear hot
        go_wp2_with (refine wpList_store_whole rfl 42 _ _ rfl w.heap.size noMem rfl rfl 42 _ (unhide A2) info_mm rfl (one_mm _ _ _ _ _ _ _ _ _ _ _) ?_)
        refine bodyPost_ret (v := .agg noMem) (results_cell rfl rfl l1) rfl ⟨_, rfl, ?_, unhide HB3⟩
        rw [fst_no HE.out]
        exact MemO.none _ _
      | true =>
        have HOT := hide hot
        have HTZ : Hid (t.size ≤ 300) := (ok_facts hot).1
        clear hot
        have HE : Hid (fstOk (k : Int) s t) := ⟨by have := HK8.out; omega, HOS.out, HOT.out⟩
        go_wp2_with fail
        refine (iTreNew_any _).mono ?_
        rintro e w3 ⟨v3, rfl, ho3, hb3⟩
        have A3 := hide ((unhide A2).below hb3)
        have HB3 := hide (HB2.out.trans (hb3.mono HB2.out.size))
        have hs3 := hb3.size
        have R3 := hide ho3.srow
        clear ho3 hb3 A2 HB2
        go_wp2_with fail
        refine (iTreSet_any _ bare (k : Int) s _ (unhide R3) (fun x hx => by rw [List.eq_of_mem_replicate hx]; exact Nat.zero_le _) HS.out).mono ?_
        rw [setRes_yes treOk_bare HK8.out HOS.out]
        rintro e w5 ⟨u5, rfl, ho5, hb5⟩
        obtain ⟨go, c, hu5⟩ := row_form' ho5
        subst hu5
        rw [show (setKeys bare k s).length = 15 from setKeys_len _ _ _] at *
        have A5 := hide ((unhide A3).below hb5)
        have HB5 := hide (HB3.out.trans (hb5.mono HB3.out.size))
        have O5 := hide ho5
        have hs5 := hb5.size
        clear ho5 hb5 A3 HB3 R3
        go_wp2_with fail
        refine (placeOf_any _ _).mono ?_
        rw [show leafOf (k : Int) = 7 + (k : Int) by unfold leafOf; rw [if_pos (by have := HK8.out; omega)]]
        rintro e wz ⟨rfl, rfl⟩
        go_wp2_with fail
        refine (ownUpward_any (7 + (k : Int)) s (by have := HSZ.out; omega) _).mono ?_
        rintro e w6 ⟨v6, rfl, ho6, hb6⟩
        obtain ⟨oo, oc, hv6⟩ := row_form' ho6
        subst hv6
        generalize hPL : (pathOf (chainOf (7 + (k : Int))) s).length = PL at *
        have A6 := hide ((unhide A5).below hb6)
        have HB6 := hide (HB5.out.trans (hb6.mono HB5.out.size))
        have O6 := hide ((unhide O5).below hb6)
        have M6 := hide ho6
        have hs6 := hb6.size
        have HPL := hide hPL
        clear ho6 hb6 A5 HB5 O5 hPL
        go_wp2_with fail
        refine (clone_any t _ (by have := HTZ.out; omega)).mono ?_
        rintro e w7 ⟨rfl, hb7⟩
        have A7 := hide ((unhide A6).below hb7)
        have HB7 := hide (HB6.out.trans (hb7.mono HB6.out.size))
        have O7 := hide ((unhide O6).below hb7)
        have M7 := hide (own_below' (unhide M6) hb7)
        clear hb7 A6 HB6 O6 M6
        have l1 := load_mm ((unhide A7).set (memC true (k : Int) (.slice go 15 c) (.slice oo PL oc) 0 t ⟨#[]⟩)) rfl
        have HB8 := hide (below_blk (unhide HB7) (Nat.le_refl _) (memC true (k : Int) (.slice go 15 c) (.slice oo PL oc) 0 t ⟨#[]⟩))
        have O8 : Hid _ := row_blk (unhide O7) (unhide A7) (by decide) (memC true (k : Int) (.slice go 15 c) (.slice oo PL oc) 0 t ⟨#[]⟩)
        have M8 : Hid _ := row_blk (unhide M7) (unhide A7) (by decide) (memC true (k : Int) (.slice go 15 c) (.slice oo PL oc) 0 t ⟨#[]⟩)
        go_wp2_with (refine wpList_store_whole rfl 42 _ _ rfl w.heap.size (memC true (k : Int) (.slice go 15 c) (.slice oo PL oc) 0 t ⟨#[]⟩) rfl rfl 42 _ (unhide A7) info_mm rfl (one_mm _ _ _ _ _ _ _ _ _ _ _) ?_)
        refine bodyPost_ret (v := .agg (memC true (k : Int) (.slice go 15 c) (.slice oo PL oc) 0 t ⟨#[]⟩)) (results_cell rfl rfl l1) rfl ⟨_, rfl, ?_, unhide HB8⟩
        rw [fst_yes HE.out]
        exact ⟨_, _, rfl, row_lowB (unhide O8) (by omega), row_lowB (unhide M8) (by omega)⟩
  · have HE : Hid (¬ fstOk p s t) := fun q => hp q.1
    have l1 := load_mm ((unhide A0).set noMem) rfl
    have HB3 := hide (below_blk (unhide HB0) (Nat.le_refl _) noMem)
    have HP := hide hp
    clear hp
    go_enter Tryz.func22, Tryz.ntmps22
    go_wp2_with fail
    refine (isOne_no _ _ (by have := HP.out; omega)).mono ?_
    rintro e wa ⟨rfl, rfl⟩
    go_wp2_with (refine wpList_store_whole rfl 42 _ _ rfl w.heap.size noMem rfl rfl 42 _ (unhide A0) info_mm rfl (one_mm _ _ _ _ _ _ _ _ _ _ _) ?_)
    refine bodyPost_ret (v := .agg noMem) (results_cell rfl rfl l1) rfl ⟨_, rfl, ?_, unhide HB3⟩
    rw [fst_no HE.out]
    exact MemO.none _ _
end Go.Proofs.YtabpaaahobakpaaGreat
/-
  The program's MakNew: its contract.
-/
namespace Go.Proofs.YtabpaaahobakpaaGreat
open Go.RowKit

set_option maxHeartbeats 400000 in
theorem iMakNew_any (who n : Int) (w : World) :
    Calls Tryz.prog 23 #[.int .i64 who, .int .i64 n] w fun e w' => e = .returned (.string (mkNew who n)) ∧ Below w.heap.size w w' := by
  by_cases h1 : who < 0 ∨ 8 ≤ who
  · have e1 : mkNew who n = ⟨#[]⟩ := by unfold mkNew; rw [if_neg (by omega)]
    rw [e1]
    go_enter Tryz.func23, Tryz.ntmps23
    go_wp2_with (go_at_call 18; refine (isOne_no _ _ h1).mono ?_; rintro e w' ⟨rfl, rfl⟩)
    go_ret
    exact ⟨rfl, Below.refl _ _⟩
  have g0 : 0 ≤ who := by omega
  have g1 : who < 8 := by omega
  by_cases h2 : n < 1
  · have e1 : mkNew who n = ⟨#[]⟩ := by unfold mkNew; rw [if_neg (by omega)]
    rw [e1]
    clear h1
    go_enter Tryz.func23, Tryz.ntmps23
    go_wp2_with (go_at_call 18; refine (isOne_yes _ _ g0 g1).mono ?_; rintro e w' ⟨rfl, rfl⟩)
    go_ret
    exact ⟨rfl, Below.refl _ _⟩
  have g2 : 1 ≤ n := by omega
  have d2 : decide (n < 1) = false := by simp; omega
  by_cases h3 : 99 < n
  · have e1 : mkNew who n = ⟨#[]⟩ := by unfold mkNew; rw [if_neg (by omega)]
    rw [e1]
    clear h1 h2
    go_enter Tryz.func23, Tryz.ntmps23
    go_wp2_with (go_at_call 18; refine (isOne_yes _ _ g0 g1).mono ?_; rintro e w' ⟨rfl, rfl⟩)
    go_ret
    exact ⟨rfl, Below.refl _ _⟩
  have d3 : decide (99 < n) = false := by simp; omega
  have e1 : mkNew who n = newName who.toNat n.toNat := by unfold mkNew; rw [if_pos (by omega)]
  rw [e1]
  have g3 : n < 100 := by omega
  have g4 : 0 ≤ n := by omega
  clear h1 h2 h3 e1
  go_enter Tryz.func23, Tryz.ntmps23
  go_wp2_with (first | (go_at_call 18; refine (isOne_yes _ _ g0 g1).mono ?_; rintro e w' ⟨rfl, rfl⟩) | (go_at_call 87; refine (nameOf_new _ _ _ g0 g1 g4 g3).mono ?_; rintro e w' ⟨rfl, hb⟩))
  go_ret
  exact ⟨rfl, hb⟩

end Go.Proofs.YtabpaaahobakpaaGreat
/-
  The program's GrpNew.
-/
namespace Go.Proofs.YtabpaaahobakpaaGreat
open Go.RowKit

theorem info_partsN {t : TypeId} {z : Value} {s b : Nat} (h : (Tryz.prog.info? t).map (fun i => (i.zero, i.size, i.bytes)) = some (some z, s, b)) : ∃ i0, Tryz.prog.info? t = some i0 ∧ i0.zero = some z ∧ i0.size = s ∧ i0.bytes = b := by
  cases hi : Tryz.prog.info? t with
  | none => rw [hi] at h; cases h
  | some i0 => rw [hi] at h; simp at h; exact ⟨i0, rfl, h.1, h.2.1, h.2.2⟩
theorem seats0 : (madeCells noMem 56).toList = scells (List.replicate 8 sx0) := by kernel_rfl
theorem ints0 : (madeCells #[Value.int .i64 0] 8).toList = List.replicate 8 (.int .i64 0) := by kernel_rfl
theorem wins0 : (madeCells #[Value.slice none 0 0] 8).toList = List.replicate 8 (.slice none 0 0) := by kernel_rfl
theorem info_m3 : (Tryz.prog.info? 42).map (fun i => (i.zero, i.size, i.bytes)) = some (some (.agg noMem), 7, 104) := by kernel_rfl
theorem info_i3 : (Tryz.prog.info? 3).map (fun i => (i.zero, i.size, i.bytes)) = some (some (.int .i64 0), 1, 8) := by kernel_rfl
theorem info_w3 : (Tryz.prog.info? 58).map (fun i => (i.zero, i.size, i.bytes)) = some (some (.slice none 0 0), 1, 24) := by kernel_rfl
set_option maxHeartbeats 400000 in
theorem newSeatsM_any (w : World) : Calls Tryz.prog 19 #[] w fun e w' => e = .returned (.slice (some ⟨w.heap.size, 0, none⟩) 8 8) ∧ w'.ownsRow w.heap.size 42 7 (.slice (some ⟨w.heap.size, 0, none⟩) 8 8) 8 (scells (List.replicate 8 sx0)) ∧ Below w.heap.size w w' := by
  obtain ⟨i0, hi, hz0, hz1, hz2⟩ := info_partsN info_m3
  go_enter Tryz.func19, Tryz.ntmps19
  go_wp2_with (at_make; refine wpList_make_full _ rfl _ _ 52 rfl w.heap.size 42 i0 (.agg noMem) 7 Tryz.underlying52 hi hz0 hz1 _ _ _ _ 8 rfl rfl rfl rfl (by rw [hz2]; decide) (by unfold maxLen; omega) (Nat.le_refl _) ?_)
  intro w1 hown hgrow
  rw [seats0] at hown
  have hO := hide hown
  have hB : Hid (Below w.heap.size w w1) := (Below.refl _ _).grown hgrow (Nat.le_refl _) (fun k hk => by cases hk)
  clear hown hgrow
  go_wp2_with fail
  go_ret
  exact ⟨rfl, unhide hO, unhide hB⟩
set_option maxHeartbeats 400000 in
theorem newSeatsI_any (w : World) : Calls Tryz.prog 20 #[] w fun e w' => e = .returned (.slice (some ⟨w.heap.size, 0, none⟩) 8 8) ∧ w'.ownsRow w.heap.size 3 1 (.slice (some ⟨w.heap.size, 0, none⟩) 8 8) 8 (List.replicate 8 (.int .i64 0)) ∧ Below w.heap.size w w' := by
  obtain ⟨i0, hi, hz0, hz1, hz2⟩ := info_partsN info_i3
  go_enter Tryz.func20, Tryz.ntmps20
  go_wp2_with (at_make; refine wpList_make_full _ rfl _ _ 54 rfl w.heap.size 3 i0 (.int .i64 0) 1 Tryz.underlying54 hi hz0 hz1 _ _ _ _ 8 rfl rfl rfl rfl (by rw [hz2]; decide) (by unfold maxLen; omega) (Nat.le_refl _) ?_)
  intro w1 hown hgrow
  replace hown := ints0 ▸ hown
  have hO : Hid (w1.ownsRow w.heap.size 3 1 (.slice (some ⟨w.heap.size, 0, none⟩) 8 8) 8 (List.replicate 8 (.int .i64 0))) := hown
  have hB : Hid (Below w.heap.size w w1) := (Below.refl _ _).grown hgrow (Nat.le_refl _) (fun k hk => by cases hk)
  clear hown hgrow
  go_wp2_with fail
  go_ret
  exact ⟨rfl, unhide hO, unhide hB⟩
set_option maxHeartbeats 400000 in
theorem newSeatsW_any (w : World) : Calls Tryz.prog 21 #[] w fun e w' => e = .returned (.slice (some ⟨w.heap.size, 0, none⟩) 8 8) ∧ w'.ownsRow w.heap.size 58 1 (.slice (some ⟨w.heap.size, 0, none⟩) 8 8) 8 (List.replicate 8 (.slice none 0 0)) ∧ Below w.heap.size w w' := by
  obtain ⟨i0, hi, hz0, hz1, hz2⟩ := info_partsN info_w3
  go_enter Tryz.func21, Tryz.ntmps21
  go_wp2_with (at_make; refine wpList_make_full _ rfl _ _ 56 rfl w.heap.size 58 i0 (.slice none 0 0) 1 Tryz.underlying56 hi hz0 hz1 _ _ _ _ 8 rfl rfl rfl rfl (by rw [hz2]; decide) (by unfold maxLen; omega) (Nat.le_refl _) ?_)
  intro w1 hown hgrow
  replace hown := wins0 ▸ hown
  have hO : Hid (w1.ownsRow w.heap.size 58 1 (.slice (some ⟨w.heap.size, 0, none⟩) 8 8) 8 (List.replicate 8 (.slice none 0 0))) := hown
  have hB : Hid (Below w.heap.size w w1) := (Below.refl _ _).grown hgrow (Nat.le_refl _) (fun k hk => by cases hk)
  clear hown hgrow
  go_wp2_with fail
  go_ret
  exact ⟨rfl, unhide hO, unhide hB⟩

/-- The three kinds of seats, with their numbers. -/
theorem newSeatsM_own (w : World) : Calls Tryz.prog 19 #[] w fun e w' => ∃ g, e = .returned (.slice (some ⟨g, 0, none⟩) 8 8) ∧ w.heap.size ≤ g ∧ g < w'.heap.size ∧ w'.ownsRow w.heap.size 42 7 (.slice (some ⟨g, 0, none⟩) 8 8) 8 (scells (List.replicate 8 sx0)) ∧ Below w.heap.size w w' :=
  (newSeatsM_any w).mono fun _ _ ⟨h1, h2, h3⟩ => ⟨_, h1, Nat.le_refl _, (h2.lt _ rfl).2, h2, h3⟩
theorem newSeatsI_own (w : World) : Calls Tryz.prog 20 #[] w fun e w' => ∃ g, e = .returned (.slice (some ⟨g, 0, none⟩) 8 8) ∧ w.heap.size ≤ g ∧ g < w'.heap.size ∧ w'.ownsRow w.heap.size 3 1 (.slice (some ⟨g, 0, none⟩) 8 8) 8 (List.replicate 8 (.int .i64 0)) ∧ Below w.heap.size w w' :=
  (newSeatsI_any w).mono fun _ _ ⟨h1, h2, h3⟩ => ⟨_, h1, Nat.le_refl _, (h2.lt _ rfl).2, h2, h3⟩
theorem newSeatsW_own (w : World) : Calls Tryz.prog 21 #[] w fun e w' => ∃ g, e = .returned (.slice (some ⟨g, 0, none⟩) 8 8) ∧ w.heap.size ≤ g ∧ g < w'.heap.size ∧ w'.ownsRow w.heap.size 58 1 (.slice (some ⟨g, 0, none⟩) 8 8) 8 (List.replicate 8 (.slice none 0 0)) ∧ Below w.heap.size w w' :=
  (newSeatsW_any w).mono fun _ _ ⟨h1, h2, h3⟩ => ⟨_, h1, Nat.le_refl _, (h2.lt _ rfl).2, h2, h3⟩
theorem mkNew_mx (a b : Int) : (mkNew a b).size ≤ maxLen := by
  unfold mkNew maxLen
  split
  · have := newName_sizes a.toNat b.toNat; omega
  · show 0 ≤ _; omega
theorem info_wd : (Tryz.prog.info? 60).map (·.size) = some 10 := by kernel_rfl
theorem info_wld2 : (Tryz.prog.info? 34).map (·.size) = some 10 := by kernel_rfl
theorem one_w10 (a0 a1 a2 a3 a4 a5 a6 a7 a8 a9 : Option Addr) (l0 l1 l2 l3 l4 l5 l6 l7 l8 l9 c0 c1 c2 c3 c4 c5 c6 c7 c8 c9 : Nat) : (wldC (.slice a0 l0 c0) (.slice a1 l1 c1) (.slice a2 l2 c2) (.slice a3 l3 c3) (.slice a4 l4 c4) (.slice a5 l5 c5) (.slice a6 l6 c6) (.slice a7 l7 c7) (.slice a8 l8 c8) (.slice a9 l9 c9)).all (·.oneCell') = true := by simp [Value.oneCell']
end Go.Proofs.YtabpaaahobakpaaGreat
/-
  Of one that begins: its seats are ok; and how one is drawn.
-/
namespace Go.Proofs.YtabpaaahobakpaaGreat
open Go.RowKit
set_option linter.unusedVariables false

theorem new_names : ∀ a : Fin 8, Kw.ok (newName a.val 1) = true ∧ Kw.ok (newName a.val 2) = true := by decide +kernel
theorem new_fstOk {who : Nat} (hw : who < 8) : fstOk (who : Int) (mkNew (who : Int) 1) (mkNew (who : Int) 2) := by
  have h := new_names ⟨who, hw⟩
  have e1 : mkNew (who : Int) 1 = newName who 1 := by unfold mkNew; rw [if_pos (by omega)]; rfl
  have e2 : mkNew (who : Int) 2 = newName who 2 := by unfold mkNew; rw [if_pos (by omega)]; rfl
  rw [e1, e2]
  refine ⟨by omega, ?_, h.2⟩
  unfold maySet
  have := newName_sizes who 1
  rw [h.1, decide_eq_true (by omega)]
  rfl
theorem path_292 : ∀ (ps : List Int) (s : ByteArray), s.size ≤ 300 → ∀ o ∈ pathOf ps s, o.2.size ≤ 300
  | [], _, _ => by simp [pathOf]
  | p :: ps, s, h => by
    intro o ho
    rcases List.mem_cons.1 ho with rfl | q
    · exact h
    · exact path_292 ps (mkNext s) (mkNext_300 s) o q
theorem seatK_none (k : Nat) : SeatK k Mem.none :=
  ⟨by decide, ⟨fun h => absurd h (by decide), ⟨fun x h => absurd h (List.not_mem_nil), ⟨fun x h => absurd h (List.not_mem_nil), ⟨Nat.zero_le _, Nat.zero_le _⟩⟩⟩⟩⟩
theorem seatK_new {who : Nat} (hw : who < 8) (k : Nat) (m : Mem) (h : (newW who).seats[k]? = some m) : SeatK k m := by
  have hk : k < 8 := by have := (List.getElem?_eq_some_iff.1 h).1; have := (len_new who).1; omega
  rw [seat_new hk] at h
  by_cases e : k = who
  · rw [if_pos e, Option.some.injEq] at h
    subst e
    have ho := new_fstOk hk
    have hsm : (mkNew (k : Int) 1).size ≤ 292 := by have := ho.2.1; unfold maySet at this; simp at this; exact this.2
    rw [fst_yes ho] at h
    subst h
    refine ⟨fst_ok k hk _ _ ho.2.1 ho.2.2, fun _ => rfl, fun x hx => ?_, fun o hx => ?_, mkNew_mx _ _, Nat.zero_le _⟩
    · exact le_maxLen (Nat.le_trans (treOk_small (treOk_set (by decide) hk ho.2.1) x hx) (by omega))
    · exact le_maxLen (Nat.le_trans (path_292 _ _ (by omega) o hx) (by omega))
  · rw [if_neg e, Option.some.injEq] at h
    subst h
    exact seatK_none k
/-- Of whom it is, its keys and who is in them. -/
theorem seat_who {who : Nat} (hw : who < 8) {m : Mem} (hm : fstOf (who : Int) (mkNew (who : Int) 1) (mkNew (who : Int) 2) = m) :
    m.inn = true ∧ inRes m.keys = [(who : Int)] ∧ (∀ x ∈ m.keys, x.size ≤ maxLen) := by
  have ho := new_fstOk hw
  have h1 := seatK_new hw who m (by rw [seat_new hw, if_pos rfl, hm])
  rw [fst_yes ho] at hm
  subst hm
  exact ⟨rfl, fst_in who hw _ ho.2.1, h1.2.2.1⟩
theorem fresh_99 {who : Nat} : ∀ x ∈ (newW who).fresh, 0 ≤ x ∧ x ≤ 99 := by
  intro x hx
  unfold newW newN at hx
  simp only [List.mem_map] at hx
  obtain ⟨k, _, rfl⟩ := hx
  split <;> omega
theorem said_999 {who : Nat} : ∀ x ∈ (newW who).said, 0 ≤ x ∧ x ≤ 999 := by
  intro x hx
  unfold newW newN at hx
  simp only [List.mem_map] at hx
  obtain ⟨k, _, rfl⟩ := hx
  omega

set_option maxHeartbeats 400000 in
theorem DrawGrpNew_any (a : Option Addr) (len cap : Nat) (zs : List Int) (w : World) (h : IsRow .u8 w a len cap zs) :
    Calls Tryz.prog 5 #[.slice a len cap] w fun e w' => ∃ p : Int, e = .returned (.int .i64 p) ∧ -1 ≤ p ∧ p ≤ 8 ∧ Below w.heap.size w w' := by
  have hR := hide h
  clear h
  go_enter Tryz.func5, Tryz.ntmps5
  go_wp2_with fail
  refine (l20Open_any a len cap zs _ (unhide hR)).mono ?_
  rintro e w1 ⟨C, rfl, d1, hb1⟩
  have D1 := hide d1
  clear d1
  go_wp2_with fail
  refine (pick_any w.heap.size C 0 10 10 rfl _ (unhide D1) (by omega) (by omega) (by omega)).mono ?_
  rintro e w2 ⟨v, rfl, hv, d2, x2⟩
  have i3 : IntKind.i64.wrap ((v : Int) - 1) = (v : Int) - 1 := by simp [IntKind.wrap, IntKind.bits, IntKind.signed]; omega
  go_wp2_with fail
  go_ret
  exact ⟨(v : Int) - 1, rfl, by omega, by omega, hb1.trans (x2.below (Nat.le_refl _) hb1.size)⟩
end Go.Proofs.YtabpaaahobakpaaGreat
/-
  The laws' own look whether two rows of texts are the same.
-/
namespace Go.Proofs.YtabpaaahobakpaaGreat
open Go.RowKit

set_option maxHeartbeats 1000000 in
theorem keTexts_any (v u : Value) (xs ys : List ByteArray) (w : World) (h : SRow w v xs) (k : SRow w u ys) :
    Calls Tryz.prog 25 #[v, u] w fun e w' => e = .returned (.bool (decide (xs = ys))) ∧ Below w.heap.size w w' := by
  obtain ⟨ao, cap, rfl, h1, h2, hc⟩ := h.form
  obtain ⟨bo, cap', rfl, h1', h2', hc'⟩ := k.form
  have hR := hide h
  have hS := hide k
  unfold maxLen at h2 h2'
  clear h k hc hc'
  by_cases hl : xs.length = ys.length
  · rw [← hl] at hS h1' ⊢
    have HL := hide hl
    clear hl
    go_enter Tryz.func25, Tryz.ntmps25
    go_wp2_with fail
    go_loopw [5] (fun i wr => ∃ k : Nat, k ≤ xs.length ∧ i = .int .i64 (k : Int) ∧ Hid (∀ j, j < k → xs.getD j ByteArray.empty = ys.getD j ByteArray.empty) ∧ Hid (Below w.heap.size w wr)) (fun i _ => xs.length - (intOf i).toNat)
    case atStart => exact ⟨0, by omega, rfl, fun j hj => by omega, Below.refl _ _⟩
    case round =>
      obtain ⟨k, hk, rfl, hN, hL⟩ := hrel
      by_cases hlt : k < xs.length
      · have hlt2 : (k : Int) < (xs.length : Int) := by omega
        obtain ⟨ao', c1, q1, _, _, q2⟩ := (SRow.below (unhide hR) (unhide hL)).form
        simp only [Value.slice.injEq] at q1
        obtain ⟨rfl, _, rfl⟩ := q1
        obtain ⟨bo', c2, q3, _, _, q4⟩ := (SRow.below (unhide hS) (unhide hL)).form
        simp only [Value.slice.injEq] at q3
        obtain ⟨rfl, z3, rfl⟩ := q3
        clear z3
        obtain ⟨a, rfl, hck⟩ := q2 k hlt
        obtain ⟨b, rfl, hck'⟩ := q4 k (by have := HL.out; omega)
        clear q2 q4
        have i3 : IntKind.i64.wrap ((k : Int) + 1) = (k : Int) + 1 := by simp [IntKind.wrap, IntKind.bits, IntKind.signed]; omega
        have hYes : Hid (xs.getD k ByteArray.empty = ys.getD k ByteArray.empty → ∀ j, j < k + 1 → xs.getD j ByteArray.empty = ys.getD j ByteArray.empty) := by
          intro ht j hj
          by_cases hjk : j = k
          · subst hjk; exact ht
          · exact hN j (by omega)
        have hNo : Hid (xs.getD k ByteArray.empty ≠ ys.getD k ByteArray.empty → decide (xs = ys) = false) := by
          intro ht
          simp
          intro e
          exact ht (by rw [e])
        generalize xs.getD k ByteArray.empty = y at hck hYes hNo
        generalize ys.getD k ByteArray.empty = z at hck' hYes hNo
        by_cases he : y = z
        · have hN1 := hide (hYes.out he)
          subst he
          go_wp2_with fail
          go_quiet (fail)
          go_wp2_with fail
          go_roundw
          case rel => exact ⟨k + 1, by omega, by simp, hN1, below_drewN (unhide hL) _⟩
          case measure => simp [intOf]; omega
        · have hE := hNo.out he
          have hnk : (y.toList == z.toList) = false := by
            cases q : (y.toList == z.toList) with
            | false => rfl
            | true => exact absurd (toList_eq.1 q) he
          go_wp2_with fail
          go_quiet (fail)
          go_wp2_with fail
          go_ret
          exact ⟨ret_bool' hE.symm, below_drewN (unhide hL) _⟩
      · have hlt2 : decide ((k : Int) < (xs.length : Int)) = false := by simp; omega
        have hE : decide (xs = ys) = true := by
          simp
          exact rows_eq HL.out (fun j hj => hN j (by omega))
        go_wp2_with fail
        go_ret
        exact ⟨ret_bool' hE.symm, unhide hL⟩
  · have hl2 : ((xs.length : Int) == (ys.length : Int)) = false := by simp; omega
    have hE : decide (xs = ys) = false := by
      simp
      intro e
      exact hl (by rw [e])
    go_enter Tryz.func25, Tryz.ntmps25
    go_wp2_with fail
    go_ret
    exact ⟨ret_bool' hE.symm, Below.refl _ _⟩

end Go.Proofs.YtabpaaahobakpaaGreat
/-
  The laws' own look whether two in a group are the same, where they are.
-/
namespace Go.Proofs.YtabpaaahobakpaaGreat
open Go.RowKit

set_option maxRecDepth 100000 in
set_option maxHeartbeats 4000000 in
theorem keMember_same (m : Mem) (ks os ks' os' : Value) (w : World) (h1 : SRow w ks m.keys) (h2 : MRow w os m.own) (h3 : SRow w ks' m.keys) (h4 : MRow w os' m.own) :
    Calls Tryz.prog 26 #[.agg (m.cells ks os), .agg (m.cells ks' os')] w fun e w' => e = .returned (.bool true) ∧ Below w.heap.size w w' := by
  obtain ⟨inn, who, keys, own, ep, init, tag⟩ := m
  have H1 := hide h1
  have H2 := hide h2
  have H3 := hide h3
  have H4 := hide h4
  obtain ⟨a1, p1, rfl, _, _, _⟩ := h1.form
  obtain ⟨a2, p2, rfl, q1, q2, _⟩ := h2
  obtain ⟨a3, p3, rfl, _, _, _⟩ := h3.form
  obtain ⟨a4, p4, rfl, _, _, _⟩ := h4
  clear h1 h3
  simp only at H1 H2 H3 H4 q1 ⊢
  unfold maxLen at q2
  generalize hkl : keys.length = kl at *
  generalize hol : own.length = ol at *
  have HOL := hide hol
  clear hol
  have HBA : Hid (Below w.heap.size w ((w.alloc (.cells (memC inn who (.slice a1 kl p1) (.slice a2 ol p2) ep init tag) 42)).alloc (.cells (memC inn who (.slice a3 kl p3) (.slice a4 ol p4) ep init tag) 42))) := ((Below.refl _ _).alloc (Nat.le_refl _) _).alloc (by simp) _
  have A0 := hide ((Blk.new w 42 (memC inn who (.slice a1 kl p1) (.slice a2 ol p2) ep init tag)).alloc (.cells (memC inn who (.slice a3 kl p3) (.slice a4 ol p4) ep init tag) 42))
  have b0 := Blk.new (w.alloc (.cells (memC inn who (.slice a1 kl p1) (.slice a2 ol p2) ep init tag) 42)) 42 (memC inn who (.slice a3 kl p3) (.slice a4 ol p4) ep init tag)
  rw [World.size_alloc] at b0
  have B0 := hide b0
  clear b0
  go_enter Tryz.func26, Tryz.ntmps26
  cases inn with
  | true => _
  | false => _
  all_goals
    go_wp2_with fail
    refine (keTexts_any _ _ keys keys _ ((unhide H1).below (unhide HBA)) ((unhide H3).below (unhide HBA))).mono ?_
    rw [show decide (keys = keys) = true by simp]
    rintro e w1 ⟨rfl, hb1⟩
    have A1 := hide ((unhide A0).below hb1)
    have B1 := hide ((unhide B0).below hb1)
    have HB1 := hide (HBA.out.trans (hb1.mono HBA.out.size))
    have c1 := (unhide A1).cell 3
    have c2 := (unhide B1).cell 3
    have c3 := (unhide A1).cell 4
    have c4 := (unhide B1).cell 4
    have c5 := (unhide A1).cell 5
    have c6 := (unhide B1).cell 5
    have c7 := (unhide A1).cell 6
    have c8 := (unhide B1).cell 6
    simp only [List.getElem?_toArray, List.getElem?_cons_succ, List.getElem?_cons_zero] at c1 c2 c3 c4 c5 c6 c7 c8
    clear hb1 A0 B0 HBA
    go_wp2_with fail
    clear c1 c2 c3 c4 c5 c6 c7 c8
    go_loopw [5] (fun i wr => ∃ k : Nat, k ≤ ol ∧ i = .int .i64 (k : Int) ∧ Hid (Below w1.heap.size w1 wr)) (fun i _ => ol - (intOf i).toNat)
    case atStart => exact ⟨0, by omega, rfl, Below.refl _ _⟩
    case round =>
      obtain ⟨k, hk, rfl, hL⟩ := hrel
      have d1 := ((unhide A1).below (unhide hL)).cell 3
      have d2 := ((unhide B1).below (unhide hL)).cell 3
      simp only [List.getElem?_toArray, List.getElem?_cons_succ, List.getElem?_cons_zero] at d1 d2
      by_cases hlt : k < ol
      · have hlt2 : (k : Int) < (ol : Int) := by omega
        obtain ⟨ao', r1, s1, _, _, t1⟩ := (MRow.below (MRow.below (unhide H2) (unhide HB1)) (unhide hL)).form
        simp only [Value.slice.injEq] at s1
        obtain ⟨rfl, _, rfl⟩ := s1
        obtain ⟨bo', r2, s2, _, _, t2⟩ := (MRow.below (MRow.below (unhide H4) (unhide HB1)) (unhide hL)).form
        simp only [Value.slice.injEq] at s2
        obtain ⟨rfl, _, rfl⟩ := s2
        obtain ⟨a, rfl, hca, hcb⟩ := t1 k (by rw [HOL.out]; exact hlt)
        obtain ⟨b, rfl, hda, hdb⟩ := t2 k (by rw [HOL.out]; exact hlt)
        clear t1 t2
        have i3 : IntKind.i64.wrap ((k : Int) + 1) = (k : Int) + 1 := by simp [IntKind.wrap, IntKind.bits, IntKind.signed]; omega
        generalize own.getD k noMo = y at hca hcb hda hdb
        go_wp2_with fail
        go_quiet (fail)
        go_wp2_with fail
        go_roundw
        case rel => exact ⟨k + 1, by omega, by simp, below_drewN (unhide hL) _⟩
        case measure => simp [intOf]; omega
      · have hlt2 : decide ((k : Int) < (ol : Int)) = false := by simp; omega
        go_wp2_with fail
        go_ret
        exact ⟨rfl, HB1.out.trans ((unhide hL).mono HB1.out.size)⟩
end Go.Proofs.YtabpaaahobakpaaGreat
/-
 The laws' own keWorld over two worlds of one who is alone, and of nothing.
-/
namespace Go.Proofs.YtabpaaahobakpaaGreat
open Go.RowKit
set_option maxHeartbeats 400000 in
theorem keE_Texts (a b : Option Addr) (c d : Nat) (w : World) : Calls Tryz.prog 25 #[.slice a 0 c, .slice b 0 d] w fun e w' => e = .returned (.bool true) ∧ w' = w := by
 go_enter Tryz.func25, Tryz.ntmps25
 go_wp2_with fail
 go_loop [5] (fun i => i = .int .i64 0) (fun _ => 0)
 case atStart => rfl
 case round =>
  subst hrel
  go_wp2_with fail
  go_ret
  exact ⟨rfl, rfl⟩
set_option maxHeartbeats 400000 in
theorem keE_Wins (a b : Option Addr) (c d : Nat) (w : World) : Calls Tryz.prog 28 #[.slice a 0 c, .slice b 0 d] w fun e w' => e = .returned (.bool true) ∧ w' = w := by
 go_enter Tryz.func28, Tryz.ntmps28
 go_wp2_with fail
 go_loop [5] (fun i => i = .int .i64 0) (fun _ => 0)
 case atStart => rfl
 case round =>
  subst hrel
  go_wp2_with fail
  go_ret
  exact ⟨rfl, rfl⟩
set_option maxHeartbeats 400000 in
theorem keE_Ints (a b : Option Addr) (c d : Nat) (w : World) : Calls Tryz.prog 11 #[.slice a 0 c, .slice b 0 d] w fun e w' => e = .returned (.bool true) ∧ w' = w := by
 go_enter Tryz.func11, Tryz.ntmps11
 go_wp2_with fail
 go_loop [5] (fun i => i = .int .i64 0) (fun _ => 0)
 case atStart => rfl
 case round =>
  subst hrel
  go_wp2_with fail
  go_ret
  exact ⟨rfl, rfl⟩
set_option maxRecDepth 100000 in
set_option maxHeartbeats 16000000 in
theorem keWld_any (v u : Value) (ms : List Mem) (fr sd : List Int) (n : Nat) (w : World) (hl : ms.length ≤ 100) (hn : n ≤ 100) (h : NewP w v ms fr sd n) (k : NewP w u ms fr sd n) :
 Calls Tryz.prog 7 #[v, u] w fun e w' => e = .returned (.bool true) ∧ Below w.heap.size w w' := by
 obtain ⟨s0, s3, s7, s8, a1, a2, a4, a5, a6, a9, p1, p2, p4, p5, p6, p9, rfl, h0, h3, h7, h8⟩ := h
 obtain ⟨t0, t3, t7, t8, b1, b2, b4, b5, b6, b9, q1, q2, q4, q5, q6, q9, rfl, k0, k3, k7, k8⟩ := k
 have H0 := hide h0
 have H3 := hide h3
 have H7 := hide h7
 have H8 := hide h8
 have K0 := hide k0
 have K3 := hide k3
 have K7 := hide k7
 have K8 := hide k8
 obtain ⟨g0, c0, rfl, hsx⟩ := h0
 obtain ⟨g3, c3, rfl, _, _, _⟩ := h3.form
 obtain ⟨g7, c7, rfl, _, _, _⟩ := h7.form
 obtain ⟨g8, c8, rfl, hxx⟩ := h8
 obtain ⟨f0, d0, rfl, htx⟩ := k0
 obtain ⟨f3, d3, rfl, _, _, _⟩ := k3.form
 obtain ⟨f7, d7, rfl, _, _, _⟩ := k7.form
 obtain ⟨f8, d8, rfl, hyx⟩ := k8
 clear h3 h7 k3 k7
 generalize hm : ms.length = ml at *
 generalize hf : fr.length = fl at *
 generalize hd : sd.length = dl at *
 obtain ⟨CA, hca⟩ : ∃ c, wldC (.slice (some ⟨g0, 0, none⟩) ml c0) (.slice a1 0 p1) (.slice a2 0 p2) (.slice g3 fl c3) (.slice a4 0 p4) (.slice a5 0 p5) (.slice a6 0 p6) (.slice g7 dl c7) (.slice (some ⟨g8, 0, none⟩) n c8) (.slice a9 0 p9) = c := ⟨_, rfl⟩
 obtain ⟨CB, hcb⟩ : ∃ c, wldC (.slice (some ⟨f0, 0, none⟩) ml d0) (.slice b1 0 q1) (.slice b2 0 q2) (.slice f3 fl d3) (.slice b4 0 q4) (.slice b5 0 q5) (.slice b6 0 q6) (.slice f7 dl d7) (.slice (some ⟨f8, 0, none⟩) n d8) (.slice b9 0 q9) = c := ⟨_, rfl⟩
 have HBA : Hid (Below w.heap.size w ((w.alloc (.cells CA 34)).alloc (.cells CB 34))) := ((Below.refl _ _).alloc (Nat.le_refl _) _).alloc (by simp) _
 have A0 := hide ((Blk.new w 34 CA).alloc (.cells CB 34))
 have b0 := Blk.new (w.alloc (.cells CA 34)) 34 CB
 rw [World.size_alloc] at b0
 have B0 := hide b0
 clear b0
 subst hca hcb
 have A := A0
 have B := B0
 have HB := HBA
 clear A0 B0 HBA
 have HML := hide hm
 have HS := hide hsx
 have HT := hide htx
 have HX := hide hxx
 have HY := hide hyx
 clear hsx htx hxx hyx
 go_enter Tryz.func7, Tryz.ntmps7
 have ca0 := (unhide A).cell 0
 have cb0 := (unhide B).cell 0
 have ca1 := (unhide A).cell 1
 have cb1 := (unhide B).cell 1
 have ca2 := (unhide A).cell 2
 have cb2 := (unhide B).cell 2
 have ca3 := (unhide A).cell 3
 have cb3 := (unhide B).cell 3
 simp only [List.getElem?_toArray, List.getElem?_cons_succ, List.getElem?_cons_zero] at ca0 cb0 ca1 cb1 ca2 cb2 ca3 cb3
 go_wp2_with fail
 refine (keInts_any _ _ fr fr _ ((unhide H3).below HB.out) ((unhide K3).below HB.out)).mono ?_
 rw [show decide (fr = fr) = true by simp]
 rintro e wc ⟨rfl, hb⟩
 clear ca0 cb0 ca1 cb1 ca2 cb2 ca3 cb3
 replace A := hide ((unhide A).below hb)
 replace B := hide ((unhide B).below hb)
 replace HB := hide (HB.out.trans (hb.mono HB.out.size))
 clear hb
 have ca4 := (unhide A).cell 4
 have cb4 := (unhide B).cell 4
 simp only [List.getElem?_toArray, List.getElem?_cons_succ, List.getElem?_cons_zero] at ca4 cb4
 go_wp2_with fail
 refine (keE_Texts _ _ _ _ _).mono ?_
 rintro e wz ⟨rfl, hz⟩
 replace hz := hz.symm
 subst hz
 clear ca4 cb4
 have ca5 := (unhide A).cell 5
 have cb5 := (unhide B).cell 5
 have ca6 := (unhide A).cell 6
 have cb6 := (unhide B).cell 6
 have ca7 := (unhide A).cell 7
 have cb7 := (unhide B).cell 7
 simp only [List.getElem?_toArray, List.getElem?_cons_succ, List.getElem?_cons_zero] at ca5 cb5 ca6 cb6 ca7 cb7
 go_wp2_with fail
 refine (keInts_any _ _ sd sd _ ((unhide H7).below HB.out) ((unhide K7).below HB.out)).mono ?_
 rw [show decide (sd = sd) = true by simp]
 rintro e wc ⟨rfl, hb⟩
 clear ca5 cb5 ca6 cb6 ca7 cb7
 replace A := hide ((unhide A).below hb)
 replace B := hide ((unhide B).below hb)
 replace HB := hide (HB.out.trans (hb.mono HB.out.size))
 clear hb
 have ca8 := (unhide A).cell 8
 have cb8 := (unhide B).cell 8
 have ca9 := (unhide A).cell 9
 have cb9 := (unhide B).cell 9
 simp only [List.getElem?_toArray, List.getElem?_cons_succ, List.getElem?_cons_zero] at ca8 cb8 ca9 cb9
 go_wp2_with fail
 clear ca8 cb8 ca9 cb9
 go_loopw [5] (fun i wr => ∃ j : Nat, j ≤ ml ∧ i = .int .i64 (j : Int) ∧ Hid (Blk wr w.heap.size 34 (wldC (.slice (some ⟨g0, 0, none⟩) ml c0) (.slice a1 0 p1) (.slice a2 0 p2) (.slice g3 fl c3) (.slice a4 0 p4) (.slice a5 0 p5) (.slice a6 0 p6) (.slice g7 dl c7) (.slice (some ⟨g8, 0, none⟩) n c8) (.slice a9 0 p9))) ∧ Hid (Blk wr (w.heap.size + 1) 34 (wldC (.slice (some ⟨f0, 0, none⟩) ml d0) (.slice b1 0 q1) (.slice b2 0 q2) (.slice f3 fl d3) (.slice b4 0 q4) (.slice b5 0 q5) (.slice b6 0 q6) (.slice f7 dl d7) (.slice (some ⟨f8, 0, none⟩) n d8) (.slice b9 0 q9))) ∧ Hid (Below w.heap.size w wr)) (fun i _ => ml - (intOf i).toNat)
 case atStart => exact ⟨0, by omega, rfl, A, B, HB⟩
 clear A B HB
 case round =>
  obtain ⟨j, hj, rfl, A, B, HB⟩ := hrel
  have hle := HB.out.size
  by_cases hlt : j < ml
  · have hlt2 : (j : Int) < (ml : Int) := by omega
    have i3 : IntKind.i64.wrap ((j : Int) + 1) = (j : Int) + 1 := by simp [IntKind.wrap, IntKind.bits, IntKind.signed]; omega
    obtain ⟨m, hm⟩ : ∃ m, ms[j]? = some m := ⟨_, List.getElem?_eq_getElem (by have := HML.out; omega)⟩
    obtain ⟨ks, os, c1, c2, c3⟩ := HS.out j m hm
    obtain ⟨ks', os', d1, d2, d3⟩ := HT.out j m hm
    have hb := HB.out
    have C1 := hide (fun n u hu => (hb.cell (cell_lt (c1 n u hu))).trans (c1 n u hu))
    have D1 := hide (fun n u hu => (hb.cell (cell_lt (d1 n u hu))).trans (d1 n u hu))
    have C2 := hide (c2.below hb)
    have D2 := hide (d2.below hb)
    have C3 := hide (c3.below hb)
    have D3 := hide (d3.below hb)
    clear c1 c2 c3 d1 d2 d3 hb hm
    have X0 : Hid (wr.cell? ⟨g0, j * 7, none⟩ = some (.bool m.inn)) := C1.out 0 _ rfl
    have Y0 : Hid (wr.cell? ⟨f0, j * 7, none⟩ = some (.bool m.inn)) := D1.out 0 _ rfl
    have ca0 := (unhide A).cell 0
    have cb0 := (unhide B).cell 0
    simp only [List.getElem?_toArray, List.getElem?_cons_zero] at ca0 cb0
    go_wp2_with fail
    refine r_i Later ?_
    refine r_q 0 ?_
    refine r_q 1 ?_ (h := by intro w' hw'; have x := (Blk.below (w := wr.drew) (unhide A) hw').g 0; go_simp; all_goals rfl)
    refine r_q 2 ?_; refine r_q 3 ?_
    refine r_q 4 ?_ (h := by
     intro w' hw'
     have x0 := (hw'.cell (cell_lt X0.out)).trans X0.out
     have x1 := (hw'.cell (cell_lt (C1.out 1 _ rfl))).trans (C1.out 1 _ rfl)
     have x2 := (hw'.cell (cell_lt (C1.out 2 _ rfl))).trans (C1.out 2 _ rfl)
     have x3 := (hw'.cell (cell_lt (C1.out 3 _ rfl))).trans (C1.out 3 _ rfl)
     have x4 := (hw'.cell (cell_lt (C1.out 4 _ rfl))).trans (C1.out 4 _ rfl)
     have x5 := (hw'.cell (cell_lt (C1.out 5 _ rfl))).trans (C1.out 5 _ rfl)
     have x6 := (hw'.cell (cell_lt (C1.out 6 _ rfl))).trans (C1.out 6 _ rfl)
     go_simp
     all_goals rfl)
    refine r_q 5 ?_
    refine r_q 6 ?_ (h := by intro w' hw'; have x := (Blk.below (w := wr.drew) (unhide B) hw').g 0; go_simp; all_goals rfl)
    refine r_q 7 ?_; refine r_q 8 ?_
    refine r_q 9 ?_ (h := by
     intro w' hw'
     have x0 := (hw'.cell (cell_lt Y0.out)).trans Y0.out
     have x1 := (hw'.cell (cell_lt (D1.out 1 _ rfl))).trans (D1.out 1 _ rfl)
     have x2 := (hw'.cell (cell_lt (D1.out 2 _ rfl))).trans (D1.out 2 _ rfl)
     have x3 := (hw'.cell (cell_lt (D1.out 3 _ rfl))).trans (D1.out 3 _ rfl)
     have x4 := (hw'.cell (cell_lt (D1.out 4 _ rfl))).trans (D1.out 4 _ rfl)
     have x5 := (hw'.cell (cell_lt (D1.out 5 _ rfl))).trans (D1.out 5 _ rfl)
     have x6 := (hw'.cell (cell_lt (D1.out 6 _ rfl))).trans (D1.out 6 _ rfl)
     go_simp
     all_goals rfl)
    refine r_1 10 (fun K hK => ?_)
    go_simp
    refine (keMember_same m ks os ks' os' _ (C2.out.drew) (unhide C3) (D2.out.drew) (unhide D3)).mono ?_
    rintro e w2 ⟨rfl, hb⟩
    go_simp
    refine hK.out _ _ hb ?_
    clear hK ca0 cb0
    replace A := hide ((unhide A).drew.below hb)
    replace B := hide ((unhide B).drew.below hb)
    replace HB : Hid (Below w.heap.size w w2) := HB.out.drew.trans (hb.mono hle)
    clear hb C1 C2 C3 D1 D2 D3 X0 Y0
    refine r_q 11 ?_
    refine r_e ?_
    go_wp2_with fail
    go_roundw
    case rel => exact ⟨j + 1, by omega, by simp, A, B, HB⟩
    case measure => simp [intOf]; omega
  · have hlt2 : decide ((j : Int) < (ml : Int)) = false := by simp; omega
    have ca0 := (unhide A).cell 0
    have cb0 := (unhide B).cell 0
    simp only [List.getElem?_toArray, List.getElem?_cons_zero] at ca0 cb0
    have ca2 := (unhide A).cell 2
    have cb2 := (unhide B).cell 2
    simp only [List.getElem?_toArray, List.getElem?_cons_succ, List.getElem?_cons_zero] at ca2 cb2
    go_wp2_with fail
    go_loop [6] (fun i => i = .int .i64 0) (fun _ => 0)
    case atStart => rfl
    case round =>
     subst hrel
     go_wp2_with fail
     clear ca2 cb2
     have ca1 := (unhide A).cell 1
     have cb1 := (unhide B).cell 1
     simp only [List.getElem?_toArray, List.getElem?_cons_succ, List.getElem?_cons_zero] at ca1 cb1
     go_wp2_with fail
     go_loop [7] (fun i => i = .int .i64 0) (fun _ => 0)
     case atStart => rfl
     case round =>
      subst hrel
      go_wp2_with fail
      clear ca1 cb1
      have ca5 := (unhide A).cell 5
      have cb5 := (unhide B).cell 5
      simp only [List.getElem?_toArray, List.getElem?_cons_succ, List.getElem?_cons_zero] at ca5 cb5
      go_wp2_with fail
      go_loop [8] (fun i => i = .int .i64 0) (fun _ => 0)
      case atStart => rfl
      case round =>
       subst hrel
       go_wp2_with fail
       clear ca5 cb5
       have ca6 := (unhide A).cell 6
       have cb6 := (unhide B).cell 6
       simp only [List.getElem?_toArray, List.getElem?_cons_succ, List.getElem?_cons_zero] at ca6 cb6
       go_wp2_with fail
       go_loop [9] (fun i => i = .int .i64 0) (fun _ => 0)
       case atStart => rfl
       case round =>
        subst hrel
        go_wp2_with fail
        clear ca6 cb6
        go_loopw [10] (fun i wr => ∃ j : Nat, j ≤ n ∧ i = .int .i64 (j : Int) ∧ Hid (Blk wr w.heap.size 34 (wldC (.slice (some ⟨g0, 0, none⟩) ml c0) (.slice a1 0 p1) (.slice a2 0 p2) (.slice g3 fl c3) (.slice a4 0 p4) (.slice a5 0 p5) (.slice a6 0 p6) (.slice g7 dl c7) (.slice (some ⟨g8, 0, none⟩) n c8) (.slice a9 0 p9))) ∧ Hid (Blk wr (w.heap.size + 1) 34 (wldC (.slice (some ⟨f0, 0, none⟩) ml d0) (.slice b1 0 q1) (.slice b2 0 q2) (.slice f3 fl d3) (.slice b4 0 q4) (.slice b5 0 q5) (.slice b6 0 q6) (.slice f7 dl d7) (.slice (some ⟨f8, 0, none⟩) n d8) (.slice b9 0 q9))) ∧ Hid (Below w.heap.size w wr)) (fun i _ => n - (intOf i).toNat)
        case atStart => exact ⟨0, by omega, rfl, A, B, HB⟩
        clear A B HB
        case round =>
         obtain ⟨j, hj, rfl, A, B, HB⟩ := hrel
         have hle := HB.out.size
         by_cases hlt : j < n
         · have hlt2 : (j : Int) < (n : Int) := by omega
           have i3 : IntKind.i64.wrap ((j : Int) + 1) = (j : Int) + 1 := by simp [IntKind.wrap, IntKind.bits, IntKind.signed]; omega
           obtain ⟨a, d, c1⟩ := HX.out j hlt
           obtain ⟨a', d', c2⟩ := HY.out j hlt
           have X0 := hide ((HB.out.cell (cell_lt c1)).trans c1)
           have Y0 := hide ((HB.out.cell (cell_lt c2)).trans c2)
           clear c1 c2
           have ca8 := (unhide A).cell 8
           have cb8 := (unhide B).cell 8
           simp only [List.getElem?_toArray, List.getElem?_cons_succ, List.getElem?_cons_zero] at ca8 cb8
           go_wp2_with fail
           refine r_i Later ?_
           refine r_q 0 ?_
           refine r_q 1 ?_ (h := by intro w' hw'; have x := (Blk.below (w := wr.drew) (unhide A) hw').g 8; go_simp; all_goals rfl)
           refine r_q 2 ?_; refine r_q 3 ?_
           refine r_q 4 ?_ (h := by intro w' hw'; have x0 := (hw'.cell (cell_lt X0.out)).trans X0.out; go_simp; all_goals rfl)
           refine r_q 5 ?_
           refine r_q 6 ?_ (h := by intro w' hw'; have x := (Blk.below (w := wr.drew) (unhide B) hw').g 8; go_simp; all_goals rfl)
           refine r_q 7 ?_; refine r_q 8 ?_
           refine r_q 9 ?_ (h := by intro w' hw'; have x0 := (hw'.cell (cell_lt Y0.out)).trans Y0.out; go_simp; all_goals rfl)
           refine r_1 10 (fun K hK => ?_)
           go_simp
           refine (keE_Wins a a' d d' _).mono ?_
           rintro e w2 ⟨rfl, rfl⟩
           go_simp
           refine hK.out _ _ (Below.refl _ _) ?_
           clear hK ca8 cb8
           replace A := hide ((unhide A).drew)
           replace B := hide ((unhide B).drew)
           replace HB := hide HB.out.drew
           clear X0 Y0
           refine r_q 11 ?_
           refine r_e ?_
           go_wp2_with fail
           go_roundw
           case rel => exact ⟨j + 1, by omega, by simp, A, B, HB⟩
           case measure => simp [intOf]; omega
         · have hlt2 : decide ((j : Int) < (n : Int)) = false := by simp; omega
           have ca8 := (unhide A).cell 8
           have cb8 := (unhide B).cell 8
           simp only [List.getElem?_toArray, List.getElem?_cons_succ, List.getElem?_cons_zero] at ca8 cb8
           have ca9 := (unhide A).cell 9
           have cb9 := (unhide B).cell 9
           simp only [List.getElem?_toArray, List.getElem?_cons_succ, List.getElem?_cons_zero] at ca9 cb9
           go_wp2_with fail
           go_loop [11] (fun i => i = .int .i64 0) (fun _ => 0)
           case atStart => rfl
           case round =>
            subst hrel
            go_wp2_with fail
            go_ret
            exact ⟨rfl, unhide HB⟩#print axioms keWld_any
set_option maxRecDepth 100000 in
set_option maxHeartbeats 8000000 in
theorem keWld0_any (w : World) : Calls Tryz.prog 7 #[.agg noWld, .agg noWld] w fun e w' => e = .returned (.bool true) ∧ Below w.heap.size w w' := by
 have HB : Hid (Below w.heap.size w ((w.alloc (.cells noWld 34)).alloc (.cells noWld 34))) := ((Below.refl _ _).alloc (Nat.le_refl _) _).alloc (by simp) _
 have A := hide ((Blk.new w 34 noWld).alloc (.cells noWld 34))
 have b0 := Blk.new (w.alloc (.cells noWld 34)) 34 noWld
 rw [World.size_alloc] at b0
 have B := hide b0
 clear b0
 go_enter Tryz.func7, Tryz.ntmps7
 have ca0 := (unhide A).cell 0
 have cb0 := (unhide B).cell 0
 have ca1 := (unhide A).cell 1
 have cb1 := (unhide B).cell 1
 have ca2 := (unhide A).cell 2
 have cb2 := (unhide B).cell 2
 have ca3 := (unhide A).cell 3
 have cb3 := (unhide B).cell 3
 simp only [List.getElem?_toArray, List.getElem?_cons_succ, List.getElem?_cons_zero] at ca0 cb0 ca1 cb1 ca2 cb2 ca3 cb3
 go_wp2_with fail
 refine (keE_Ints _ _ _ _ _).mono ?_
 rintro e wz ⟨rfl, hz⟩
 replace hz := hz.symm
 subst hz
 clear ca0 cb0 ca1 cb1 ca2 cb2 ca3 cb3
 have ca4 := (unhide A).cell 4
 have cb4 := (unhide B).cell 4
 simp only [List.getElem?_toArray, List.getElem?_cons_succ, List.getElem?_cons_zero] at ca4 cb4
 go_wp2_with fail
 refine (keE_Texts _ _ _ _ _).mono ?_
 rintro e wz ⟨rfl, hz⟩
 replace hz := hz.symm
 subst hz
 clear ca4 cb4
 have ca5 := (unhide A).cell 5
 have cb5 := (unhide B).cell 5
 have ca6 := (unhide A).cell 6
 have cb6 := (unhide B).cell 6
 have ca7 := (unhide A).cell 7
 have cb7 := (unhide B).cell 7
 simp only [List.getElem?_toArray, List.getElem?_cons_succ, List.getElem?_cons_zero] at ca5 cb5 ca6 cb6 ca7 cb7
 go_wp2_with fail
 refine (keE_Ints _ _ _ _ _).mono ?_
 rintro e wz ⟨rfl, hz⟩
 replace hz := hz.symm
 subst hz
 clear ca5 cb5 ca6 cb6 ca7 cb7
 have ca8 := (unhide A).cell 8
 have cb8 := (unhide B).cell 8
 have ca9 := (unhide A).cell 9
 have cb9 := (unhide B).cell 9
 simp only [List.getElem?_toArray, List.getElem?_cons_succ, List.getElem?_cons_zero] at ca8 cb8 ca9 cb9
 go_wp2_with fail
 clear ca8 cb8 ca9 cb9
 have ca0 := (unhide A).cell 0
 have cb0 := (unhide B).cell 0
 simp only [List.getElem?_toArray, List.getElem?_cons_zero] at ca0 cb0
 go_loop [5] (fun i => i = .int .i64 0) (fun _ => 0)
 case atStart => rfl
 case round =>
  subst hrel
  go_wp2_with fail
  clear ca0 cb0
  have ca2 := (unhide A).cell 2
  have cb2 := (unhide B).cell 2
  simp only [List.getElem?_toArray, List.getElem?_cons_succ, List.getElem?_cons_zero] at ca2 cb2
  go_loop [6] (fun i => i = .int .i64 0) (fun _ => 0)
  case atStart => rfl
  case round =>
   subst hrel
   go_wp2_with fail
   clear ca2 cb2
   have ca1 := (unhide A).cell 1
   have cb1 := (unhide B).cell 1
   simp only [List.getElem?_toArray, List.getElem?_cons_succ, List.getElem?_cons_zero] at ca1 cb1
   go_loop [7] (fun i => i = .int .i64 0) (fun _ => 0)
   case atStart => rfl
   case round =>
    subst hrel
    go_wp2_with fail
    clear ca1 cb1
    have ca5 := (unhide A).cell 5
    have cb5 := (unhide B).cell 5
    simp only [List.getElem?_toArray, List.getElem?_cons_succ, List.getElem?_cons_zero] at ca5 cb5
    go_loop [8] (fun i => i = .int .i64 0) (fun _ => 0)
    case atStart => rfl
    case round =>
     subst hrel
     go_wp2_with fail
     clear ca5 cb5
     have ca6 := (unhide A).cell 6
     have cb6 := (unhide B).cell 6
     simp only [List.getElem?_toArray, List.getElem?_cons_succ, List.getElem?_cons_zero] at ca6 cb6
     go_loop [9] (fun i => i = .int .i64 0) (fun _ => 0)
     case atStart => rfl
     case round =>
      subst hrel
      go_wp2_with fail
      clear ca6 cb6
      have ca8 := (unhide A).cell 8
      have cb8 := (unhide B).cell 8
      simp only [List.getElem?_toArray, List.getElem?_cons_succ, List.getElem?_cons_zero] at ca8 cb8
      go_loop [10] (fun i => i = .int .i64 0) (fun _ => 0)
      case atStart => rfl
      case round =>
       subst hrel
       go_wp2_with fail
       clear ca8 cb8
       have ca9 := (unhide A).cell 9
       have cb9 := (unhide B).cell 9
       simp only [List.getElem?_toArray, List.getElem?_cons_succ, List.getElem?_cons_zero] at ca9 cb9
       go_loop [11] (fun i => i = .int .i64 0) (fun _ => 0)
       case atStart => rfl
       case round =>
        subst hrel
        go_wp2_with fail
        go_ret
        exact ⟨rfl, unhide HB⟩
end Go.Proofs.YtabpaaahobakpaaGreat
/-
  Marks in the seats of one who is alone.
-/
namespace Go.Proofs.YtabpaaahobakpaaGreat
open Go.RowKit

end Go.Proofs.YtabpaaahobakpaaGreat
/-
  Marks in the seats of one who is alone, looked up again.
-/
namespace Go.Proofs.YtabpaaahobakpaaGreat
open Go.RowKit

/-- Where the seats' cells are marked. -/
def SeatM (w : World) (g who q : Nat) (x : Sx) : Prop := ∀ (j n : Nat) (v : Value), j < 8 → n < 7 → (scell (smark who q x j))[n]? = some v → w.cell? ⟨g, j * 7 + n, none⟩ = some v
theorem SeatM.below {w w' : World} {g who q : Nat} {x : Sx} (h : SeatM w g who q x) (hb : Below w.heap.size w w') : SeatM w' g who q x := fun j n v h1 h2 h3 => (hb.cell (cell_lt (h j n v h1 h2 h3))).trans (h j n v h1 h2 h3)
theorem SeatM.of {w : World} {B g cap who q : Nat} {x : Sx} (h : w.ownsRow B 42 7 (.slice (some ⟨g, 0, none⟩) 8 cap) 8 (scells (srow who q x 8))) : SeatM w g who q x := fun j n v h1 h2 h3 => by
  rw [h.cellAt (j * 7 + n) (by omega), scells_at _ j n _ (srow_at h1) h2, if_pos h1, h3]

end Go.Proofs.YtabpaaahobakpaaGreat
/-
  The laws' own marks: numbers that are written into rows, and looked up again.
-/
namespace Go.Proofs.YtabpaaahobakpaaGreat
open Go.RowKit

end Go.Proofs.YtabpaaahobakpaaGreat
/-
  Marks in a world of one who is alone, looked up again.
-/
namespace Go.Proofs.YtabpaaahobakpaaGreat
open Go.RowKit

end Go.Proofs.YtabpaaahobakpaaGreat
