/-
  Proved: at every code the law FnTreCover returns true (TreCover answers as the specification's; what it tells has keys and lies from the place down; each one in the group whose place is from there down lies under just one of them, or is one; each other one under none), and nothing that was there is written. No condition.
-/
import Derived.Test.YtjmnfdfnndoffaaFnTreCoverB1
import Derived.Test.YtjmnfdfnndoffaaFnTreCoverB5
import Derived.Test.YtjmnfdfnndoffaaFnTreCoverB6
import Derived.Test.YtjmnfdfnndoffaaFnTreCoverB8
import Derived.Test.YtjmnfdfnndoffaaFnTreCoverB9
namespace Go.Proofs.Ytjmnfdfnndoffaa
open Go.ChangeShapes Go.WideShapes Go.ChangeAt Go.RowKit
open Go.ChangeMaps (open_string shut_string)
set_option linter.unusedVariables false

theorem ints_at {ps : List Nat} {k : Nat} (h : k < ps.length) : (ints ps).getD k 0 = ((ps.getD k 0 : Nat) : Int) ∧ ps.getD k 0 ∈ ps := by
  unfold ints
  rw [List.getD_eq_getElem?_getD, List.getElem?_map, List.getD_eq_getElem?_getD, List.getElem?_eq_getElem h]
  exact ⟨rfl, List.getElem_mem h⟩
theorem meet_nat (a b : Nat) (ha : a < 15) (hb : b < 15) : meetOf (a : Int) (b : Int) = ((meets a b : Nat) : Int) := by
  unfold meetOf; rw [if_pos (by omega)]; rfl
/-- What covers: keyed, and from the place down. -/
theorem cov_at {xs : List ByteArray} {n k : Nat} (hn : n < 15) (hk : k < (ints (cover xs n)).length) :
    ∃ c : Nat, (ints (cover xs n)).getD k 0 = (c : Int) ∧ c < 15 ∧ xs.getD c ByteArray.empty ≠ ByteArray.empty ∧ meetOf (c : Int) (n : Int) = (n : Int) := by
  rw [ints_len] at hk
  obtain ⟨e, m⟩ := ints_at hk
  obtain ⟨h1, h2, h3⟩ := cover_has xs n hn _ m
  exact ⟨_, e, h1, by simpa [keyed] using h2, by rw [meet_nat _ _ h1 hn, h3]⟩
/-- How many of the first k lie at a place, or above. -/
def cntA (L : List Int) (lf : Int) (k : Nat) : Nat := ((L.take k).filter (fun c => decide (meetOf c lf = c))).length
theorem cntA_zero (L : List Int) (lf : Int) : cntA L lf 0 = 0 := by simp [cntA]
theorem cntA_le (L : List Int) (lf : Int) (k : Nat) : cntA L lf k ≤ L.length := by
  unfold cntA
  exact Nat.le_trans (List.length_filter_le _ _) (by simp; omega)
theorem cntA_yes {L : List Int} {lf : Int} {k : Nat} (h : k < L.length) (hy : meetOf (L.getD k 0) lf = L.getD k 0) : cntA L lf (k + 1) = cntA L lf k + 1 := by
  unfold cntA
  rw [List.take_succ_eq_append_getElem h, List.filter_append]
  rw [List.getD_eq_getElem?_getD, List.getElem?_eq_getElem h] at hy
  have hy' : meetOf L[k] lf = L[k] := hy
  simp [hy']
theorem cntA_no {L : List Int} {lf : Int} {k : Nat} (h : k < L.length) (hy : ¬ meetOf (L.getD k 0) lf = L.getD k 0) : cntA L lf (k + 1) = cntA L lf k := by
  unfold cntA
  rw [List.take_succ_eq_append_getElem h, List.filter_append]
  rw [List.getD_eq_getElem?_getD, List.getElem?_eq_getElem h] at hy
  have hy' : ¬ meetOf L[k] lf = L[k] := hy
  simp [hy']
theorem filter_ints (l : Nat) (hl : l < 15) : ∀ ps : List Nat, (∀ p ∈ ps, p < 15) → ((ints ps).filter (fun c => decide (meetOf c (l : Int) = c))).length = above ps l := by
  intro ps
  induction ps with
  | nil => intro _; rfl
  | cons p ps ih =>
    intro h
    have ih' := ih (fun q hq => h q (List.mem_cons_of_mem _ hq))
    have hp := h p List.mem_cons_self
    have e : decide (meetOf (p : Int) (l : Int) = (p : Int)) = decide (meets p l = p) := by
      rw [meet_nat p l hp hl, Bool.eq_iff_iff]
      simp only [decide_eq_true_eq]
      omega
    unfold above at ih' ⊢
    unfold ints at ih' ⊢
    rw [List.map_cons, List.filter_cons, List.filter_cons, e]
    by_cases m : meets p l = p
    · rw [if_pos (by simpa using m), if_pos (by simpa using m), List.length_cons, List.length_cons, ih']
    · rw [if_neg (by simpa using m), if_neg (by simpa using m), ih']
/-- Each one who is in is covered once, if its place is from there down. -/
theorem cov_cnt {xs : List ByteArray} {n l : Nat} (hn : n < 15) (h7 : 7 ≤ l) (hl : l < 15) (hk : keyed xs l = true) : cntA (ints (cover xs n)) (l : Int) (ints (cover xs n)).length = if meetOf (l : Int) (n : Int) = (n : Int) then 1 else 0 := by
  unfold cntA
  rw [List.take_length, filter_ints l hl _ (fun p hp => (cover_has xs n hn p hp).1), cover_count xs l h7 hl hk n hn, meet_nat l n hl hn]
  by_cases m : meets l n = n
  · rw [if_pos m, if_pos (by omega)]
  · rw [if_neg m, if_neg (by omega)]
theorem in_at {xs : List ByteArray} {k : Nat} (h : k < (inUp xs 8).length) : ∃ c : Nat, (inUp xs 8).getD k 0 = (c : Int) ∧ c < 8 ∧ keyed xs (7 + c) = true := by
  unfold inUp at h ⊢
  rw [ints_len] at h
  obtain ⟨e, m⟩ := ints_at h
  rw [List.mem_filter, List.mem_range] at m
  exact ⟨_, e, m.1, m.2⟩

set_option maxRecDepth 100000 in
set_option maxHeartbeats 8000000 in
theorem walk_FnTreCover (a0 : Option Addr) (len0 cap0 : Nat) (z0 : List Int) (w : World) (w0 : IsRow .u8 w a0 len0 cap0 z0) :
    Calls Try.prog 3 #[.slice a0 len0 cap0] w fun e w' => e = .returned (.bool true) ∧ Below w.heap.size w w' := by
  have hR := hide w0
  clear w0
  by_cases h : (1048576 : Int) < (len0 : Int)
  · go_enter Try.func3, Try.ntmps3
    go_wp2_with fail
    go_ret
    exact ⟨rfl, Below.refl _ _⟩
  have h2 : decide ((1048576 : Int) < (len0 : Int)) = false := by simpa using h
  clear h
  go_enter Try.func3, Try.ntmps3
  go_wp2_with fail
  refine (DrawTreCover_any a0 len0 cap0 z0 _ (unhide hR)).mono ?_
  rintro e w1 ⟨v, xs, p, rfl, hG, ha1, ha2, hb1⟩
  obtain ⟨ao, kp, rfl, _, _, _⟩ := hG.row.1.form
  have HM := hide hG.max
  have T1 := hide (TV.new hG.row.1)
  have HB1 := hide (hb1.trans ((below_new w1 (.cells #[.slice ao xs.length kp] 25)).mono hb1.size))
  clear hG hb1 hR h2 ha1 ha2
  have l1 := (unhide T1).box.cell
  go_wp2_with fail
  refine (iTreCover_any _ xs p _ (unhide T1).row (unhide HM)).mono ?_
  rintro e w2 ⟨v2, rfl, ho2, hb2⟩
  have R2 := hide (IIn.of ho2)
  have T2 := hide ((unhide T1).below hb2)
  have HB2 := hide (HB1.out.trans (hb2.mono HB1.out.size))
  obtain ⟨o2, c2, rfl⟩ := row_form' ho2
  clear hb2 ho2 HB1 T1 l1
  have l1 := (unhide T2).box.cell
  go_wp2_with fail
  refine (sTreCover_any _ xs p _ (unhide T2).row (unhide HM)).mono ?_
  rintro e w3 ⟨v3, rfl, ho3, hb3⟩
  have K3 := hide ho3.irow
  have R3 := hide ((unhide R2).below hb3)
  have T3 := hide ((unhide T2).below hb3)
  have HB3 := hide (HB2.out.trans (hb3.mono HB2.out.size))
  clear hb3 ho3 HB2 T2 l1 R2
  go_wp2_with fail
  refine (keInts_any _ v3 _ _ _ (unhide R3).irow (unhide K3)).mono ?_
  rw [show decide (covRes xs p = covRes xs p) = true by simp]
  rintro e w4 ⟨rfl, hb4⟩
  have R4 := hide ((unhide R3).below hb4)
  have T4 := hide ((unhide T3).below hb4)
  have HB4 := hide (HB3.out.trans (hb4.mono HB3.out.size))
  clear hb4 HB3 T3 R3 K3
  have l1 := (unhide T4).box.cell
  go_wp2_with fail
  refine (sTreOk_any _ xs _ (unhide T4).row (unhide HM)).mono ?_
  rintro e w5 ⟨rfl, hb5⟩
  have R5 := hide ((unhide R4).below hb5)
  have T5 := hide ((unhide T4).below hb5)
  have HB5 := hide (HB4.out.trans (hb5.mono HB4.out.size))
  clear hb5 HB4 T4 R4 l1
  by_cases hok : treOk xs = true ∧ 0 ≤ p ∧ p ≤ 14
  · obtain ⟨n, rfl⟩ : ∃ k : Nat, p = (k : Int) := ⟨p.toNat, by omega⟩
    have hn : n < 15 := by omega
    have HXL : Hid (xs.length = 15) := (treOk_iff.1 hok.1).1
    have hL : covRes xs (n : Int) = ints (cover xs n) := by unfold covRes; rw [if_pos hok.1, covR_nat xs n hn]
    have hIN : Hid (inRes xs = inUp xs 8) := by show _ = _; unfold inRes; rw [if_pos hok.1]
    have LL := covRes_len xs (n : Int)
    have q1 := hok.1
    have HN := hide hn
    have HAT := hide (fun k => cov_at (xs := xs) (n := n) (k := k) hn)
    have HCT := hide (fun l => cov_cnt (xs := xs) (n := n) (l := l) hn)
    have HIA := hide (fun k => in_at (xs := xs) (k := k))
    have d1 : decide ((n : Int) < 0) = false := by simp
    have d2 : decide (15 ≤ (n : Int)) = false := by simp; omega
    rw [hL] at R5 LL ⊢
    rw [q1]
    clear hok hL q1 hn
    generalize ints (cover xs n) = L at *
    go_wp2_with fail
    go_loopw [6] (fun i wr => ∃ k : Nat, k ≤ L.length ∧ i = .int .i64 (k : Int) ∧ Hid (IIn (w1.alloc (.cells #[.slice ao xs.length kp] 25)).heap.size w2.heap.size wr (.slice o2 L.length c2) L) ∧ Hid (TV w1.heap.size (.slice ao xs.length kp) xs wr) ∧ Hid (Below w.heap.size w wr)) (fun i _ => L.length - (intOf i).toNat)
    case atStart => exact ⟨0, by omega, rfl, R5, T5, HB5⟩
    case round =>
      clear R5 T5 HB5
      obtain ⟨k, hk, rfl, hRr, hTr, hBr⟩ := hrel
      by_cases hlt : k < L.length
      · have hlt2 : (k : Int) < (L.length : Int) := by omega
        have i3 : IntKind.i64.wrap ((k : Int) + 1) = (k : Int) + 1 := by simp [IntKind.wrap, IntKind.bits, IntKind.signed]; omega
        have Rd := hide (unhide hRr).drew
        have Td := hide (unhide hTr).drew
        have HBd := hide hBr.out.drew
        clear hRr hTr hBr
        obtain ⟨q0, q1, q2, _, _, q5⟩ := (unhide Rd).irow.form
        simp only [Value.slice.injEq] at q2
        obtain ⟨rfl, _, rfl⟩ := q2
        obtain ⟨ad, rfl, hck⟩ := q5 k hlt
        obtain ⟨c, e1, e2, e3, e4⟩ := HAT.out k hlt
        rw [e1] at hck
        have HME := hide e4
        obtain ⟨q0, q1, q2, _, _, q6⟩ := (unhide Td).row.form
        simp only [Value.slice.injEq] at q2
        obtain ⟨rfl, _, rfl⟩ := q2
        obtain ⟨ax, rfl, hcs⟩ := q6 c (by have := HXL.out; omega)
        have g1 : (c : Int) < (xs.length : Int) := by have := HXL.out; omega
        have e5 : ¬ (xs.getD c ByteArray.empty).toList = [] := no_text e3
        generalize xs.getD c ByteArray.empty = x at hcs e5
        have e6 : x.toList.isEmpty = false := by cases hl : x.toList with
          | nil => exact absurd hl e5
          | cons _ _ => rfl
        clear q5 q6 e1 e3 e4
        go_wp2_with fail
        refine wp_region_later (by kernel_rfl) ?_
        refine later_take (i := 0) (d := 52) (v := ?_) (by kernel_rfl) (by kernel_rfl) (by kernel_rfl) (by kernel_rfl) (fun _ _ _ h => h) (fun oi hoi => ?_) ?_
        rotate_left
        · simp at hoi
          subst hoi
          refine ⟨by rfl, fun w' hw' => ?_⟩
          go_simp
          all_goals rfl
        try simp only [Act.put, List.setIfInBounds_toArray, List.set_cons_zero, List.set_cons_succ]
        refine later_take (i := 1) (d := 53) (v := ?_) (by kernel_rfl) (by kernel_rfl) (by kernel_rfl) (by kernel_rfl) (fun _ _ _ h => h) (fun oi hoi => ?_) ?_
        rotate_left
        · simp at hoi
          subst hoi
          refine ⟨by rfl, fun w' hw' => ?_⟩
          have hx := (box_below (unhide Td).box hw').cell
          go_simp
          all_goals rfl
        try simp only [Act.put, List.setIfInBounds_toArray, List.set_cons_zero, List.set_cons_succ]
        refine later_take (i := 2) (d := 54) (v := ?_) (by kernel_rfl) (by kernel_rfl) (by kernel_rfl) (by kernel_rfl) (fun _ _ _ h => h) (fun oi hoi => ?_) ?_
        rotate_left
        · simp at hoi
          subst hoi
          refine ⟨by rfl, fun w' hw' => ?_⟩
          go_simp
          all_goals rfl
        try simp only [Act.put, List.setIfInBounds_toArray, List.set_cons_zero, List.set_cons_succ]
        refine later_take (i := 3) (d := 55) (v := ?_) (by kernel_rfl) (by kernel_rfl) (by kernel_rfl) (by kernel_rfl) (fun _ _ _ h => h) (fun oi hoi => ?_) ?_
        rotate_left
        · simp at hoi
          subst hoi
          refine ⟨by rfl, fun w' hw' => ?_⟩
          go_simp
          all_goals rfl
        try simp only [Act.put, List.setIfInBounds_toArray, List.set_cons_zero, List.set_cons_succ]
        refine later_take (i := 4) (d := 56) (v := ?_) (by kernel_rfl) (by kernel_rfl) (by kernel_rfl) (by kernel_rfl) (fun _ _ _ h => h) (fun oi hoi => ?_) ?_
        rotate_left
        · simp at hoi
          subst hoi
          refine ⟨by rfl, fun w' hw' => ?_⟩
          go_simp
          all_goals rfl
        try simp only [Act.put, List.setIfInBounds_toArray, List.set_cons_zero, List.set_cons_succ]
        refine later_take (i := 5) (d := 57) (v := ?_) (by kernel_rfl) (by kernel_rfl) (by kernel_rfl) (by kernel_rfl) (fun _ _ _ h => h) (fun oi hoi => ?_) ?_
        rotate_left
        · simp at hoi
          subst hoi
          refine ⟨by rfl, fun w' hw' => ?_⟩
          have hx := (Below.cell hw' (cell_lt (w := wr.drew) hck)).trans hck
          go_simp
          all_goals rfl
        try simp only [Act.put, List.setIfInBounds_toArray, List.set_cons_zero, List.set_cons_succ]
        refine later_take (i := 6) (d := 58) (v := ?_) (by kernel_rfl) (by kernel_rfl) (by kernel_rfl) (by kernel_rfl) (fun _ _ _ h => h) (fun oi hoi => ?_) ?_
        rotate_left
        · simp at hoi
          subst hoi
          refine ⟨by rfl, fun w' hw' => ?_⟩
          go_simp
          all_goals rfl
        try simp only [Act.put, List.setIfInBounds_toArray, List.set_cons_zero, List.set_cons_succ]
        refine later_take (i := 7) (d := 59) (v := ?_) (by kernel_rfl) (by kernel_rfl) (by kernel_rfl) (by kernel_rfl) (fun _ _ _ h => h) (fun oi hoi => ?_) ?_
        rotate_left
        · simp at hoi
          subst hoi
          refine ⟨by rfl, fun w' hw' => ?_⟩
          have hx := (Below.cell hw' (cell_lt (w := wr.drew) hcs)).trans hcs
          go_simp
          all_goals rfl
        try simp only [Act.put, List.setIfInBounds_toArray, List.set_cons_zero, List.set_cons_succ]
        refine later_take (i := 8) (d := 60) (v := ?_) (by kernel_rfl) (by kernel_rfl) (by kernel_rfl) (by kernel_rfl) (fun _ _ _ h => h) (fun oi hoi => ?_) ?_
        rotate_left
        · simp at hoi
          subst hoi
          refine ⟨by rfl, fun w' hw' => ?_⟩
          go_simp
          all_goals rfl
        try simp only [Act.put, List.setIfInBounds_toArray, List.set_cons_zero, List.set_cons_succ]
        refine later_take (i := 9) (d := 61) (v := ?_) (by kernel_rfl) (by kernel_rfl) (by kernel_rfl) (by kernel_rfl) (fun _ _ _ h => h) (fun oi hoi => ?_) ?_
        rotate_left
        · simp at hoi
          subst hoi
          refine ⟨by rfl, fun w' hw' => ?_⟩
          go_simp
          all_goals rfl
        try simp only [Act.put, List.setIfInBounds_toArray, List.set_cons_zero, List.set_cons_succ]
        refine later_take (i := 10) (d := 62) (v := ?_) (by kernel_rfl) (by kernel_rfl) (by kernel_rfl) (by kernel_rfl) (fun _ _ _ h => h) (fun oi hoi => ?_) ?_
        rotate_left
        · simp at hoi
          subst hoi
          refine ⟨by rfl, fun w' hw' => ?_⟩
          go_simp
          all_goals rfl
        try simp only [Act.put, List.setIfInBounds_toArray, List.set_cons_zero, List.set_cons_succ]
        refine later_take (i := 11) (d := 63) (v := ?_) (by kernel_rfl) (by kernel_rfl) (by kernel_rfl) (by kernel_rfl) (fun _ _ _ h => h) (fun oi hoi => ?_) ?_
        rotate_left
        · simp at hoi
          subst hoi
          refine ⟨by rfl, fun w' hw' => ?_⟩
          go_simp
          all_goals rfl
        try simp only [Act.put, List.setIfInBounds_toArray, List.set_cons_zero, List.set_cons_succ]
        refine later_take (i := 12) (d := 64) (v := ?_) (by kernel_rfl) (by kernel_rfl) (by kernel_rfl) (by kernel_rfl) (fun _ _ _ h => h) (fun oi hoi => ?_) ?_
        rotate_left
        · simp at hoi
          subst hoi
          refine ⟨by rfl, fun w' hw' => ?_⟩
          go_simp
          all_goals rfl
        try simp only [Act.put, List.setIfInBounds_toArray, List.set_cons_zero, List.set_cons_succ]
        refine later_take (i := 13) (d := 65) (v := ?_) (by kernel_rfl) (by kernel_rfl) (by kernel_rfl) (by kernel_rfl) (fun _ _ _ h => h) (fun oi hoi => ?_) ?_
        rotate_left
        · simp at hoi
          subst hoi
          refine ⟨by rfl, fun w' hw' => ?_⟩
          have hx := (Below.cell hw' (cell_lt (w := wr.drew) hck)).trans hck
          go_simp
          all_goals rfl
        try simp only [Act.put, List.setIfInBounds_toArray, List.set_cons_zero, List.set_cons_succ]
        refine later_take (i := 14) (d := 66) (v := ?_) (by kernel_rfl) (by kernel_rfl) (by kernel_rfl) (by kernel_rfl) (fun _ _ _ h => h) (fun oi hoi => ?_) ?_
        rotate_left
        · simp at hoi
          subst hoi
          refine ⟨by rfl, fun w' hw' => ?_⟩
          go_simp
          all_goals rfl
        try simp only [Act.put, List.setIfInBounds_toArray, List.set_cons_zero, List.set_cons_succ]
        refine later_take (i := 16) (d := 68) (v := ?_) (by kernel_rfl) (by kernel_rfl) (by kernel_rfl) (by kernel_rfl) (fun _ _ _ h => h) (fun oi hoi => ?_) ?_
        rotate_left
        · simp at hoi
          subst hoi
          refine ⟨by rfl, fun w' hw' => ?_⟩
          go_simp
          all_goals rfl
        try simp only [Act.put, List.setIfInBounds_toArray, List.set_cons_zero, List.set_cons_succ]
        refine later_one (i := 15) (by kernel_rfl) (fun oi K hoi hK => ?_)
        simp at hoi
        subst hoi
        refine ⟨by rfl, ?_⟩
        go_simp
        refine (iTreMeet_any (c : Int) (n : Int) _).mono ?_
        rw [HME.out]
        rintro e wm ⟨rfl, hbm⟩
        go_simp
        refine hK.out _ _ hbm ?_
        clear hK
        have Rm := hide ((unhide Rd).below hbm)
        have Tm := hide ((unhide Td).below hbm)
        have HBm := hide (HBd.out.trans (hbm.mono HBd.out.size))
        clear hbm
        try simp only [Act.put, List.setIfInBounds_toArray, List.set_cons_zero, List.set_cons_succ]
        refine later_take (i := 17) (d := 69) (v := ?_) (by kernel_rfl) (by kernel_rfl) (by kernel_rfl) (by kernel_rfl) (fun _ _ _ h => h) (fun oi hoi => ?_) ?_
        rotate_left
        · simp at hoi
          subst hoi
          refine ⟨by rfl, fun w' hw' => ?_⟩
          go_simp
          all_goals rfl
        try simp only [Act.put, List.setIfInBounds_toArray, List.set_cons_zero, List.set_cons_succ]
        refine later_take (i := 18) (d := 70) (v := ?_) (by kernel_rfl) (by kernel_rfl) (by kernel_rfl) (by kernel_rfl) (fun _ _ _ h => h) (fun oi hoi => ?_) ?_
        rotate_left
        · simp at hoi
          subst hoi
          refine ⟨by rfl, fun w' hw' => ?_⟩
          go_simp
          all_goals rfl
        try simp only [Act.put, List.setIfInBounds_toArray, List.set_cons_zero, List.set_cons_succ]
        refine later_done (by kernel_rfl) ?_ _
        go_wp2_with fail
        go_roundw
        case rel => exact ⟨k + 1, by omega, by simp, Rm, Tm, HBm⟩
        case measure => simp [intOf]; omega
      · have hlt2 : decide ((k : Int) < (L.length : Int)) = false := by simp; omega
        have l1 := (unhide hTr).box.cell
        go_wp2_with fail
        refine (iTreIn_any _ xs _ (unhide hTr).row (unhide HM)).mono ?_
        rw [hIN.out]
        rintro e w6 ⟨v6, rfl, ho6, hb6⟩
        have I6 := hide (IIn.of ho6)
        have R6 := hide ((unhide hRr).below hb6)
        have HB6 := hide (hBr.out.trans (hb6.mono hBr.out.size))
        have LI := inUp_len xs 8
        generalize inUp xs 8 = I at *
        obtain ⟨o6, c6, rfl⟩ := row_form' ho6
        generalize wr.heap.size = szr at *
        clear hb6 ho6 hBr hTr hRr l1 hlt2 HAT hlt hk
        go_wp2_with fail
        go_loopw [8] (fun i wr => ∃ k : Nat, k ≤ I.length ∧ i = .int .i64 (k : Int) ∧ Hid (IIn (w1.alloc (.cells #[.slice ao xs.length kp] 25)).heap.size w2.heap.size wr (.slice o2 L.length c2) L) ∧ Hid (IIn szr w6.heap.size wr (.slice o6 I.length c6) I) ∧ Hid (Below w.heap.size w wr)) (fun i _ => I.length - (intOf i).toNat)
        case atStart => exact ⟨0, by omega, rfl, R6, I6, HB6⟩
        case round =>
          clear R6 I6 HB6
          obtain ⟨k, hk, rfl, hRr, hIr, hBr⟩ := hrel
          by_cases hlt : k < I.length
          · have hlt2 : (k : Int) < (I.length : Int) := by omega
            have i3 : IntKind.i64.wrap ((k : Int) + 1) = (k : Int) + 1 := by simp [IntKind.wrap, IntKind.bits, IntKind.signed]; omega
            obtain ⟨q0, q1, q2, _, _, q5⟩ := (unhide hIr).irow.form
            simp only [Value.slice.injEq] at q2
            obtain ⟨rfl, _, rfl⟩ := q2
            obtain ⟨ad, rfl, hck⟩ := q5 k hlt
            obtain ⟨c, e1, e2, e3⟩ := HIA.out k hlt
            rw [e1] at hck
            have HLF : Hid (leafOf (c : Int) = ((7 + c : Nat) : Int)) := by show _ = _; unfold leafOf; rw [if_pos (by omega)]; omega
            have HC := hide (HCT.out (7 + c) (by omega) (by omega) e3)
            clear q5 e1 e3
            go_wp2_with fail
            refine (iTreLeaf_any (c : Int) _).mono ?_
            rw [HLF.out]
            rintro e wA ⟨rfl, rfl⟩
            generalize ((7 + c : Nat) : Int) = lf at *
            go_wp2_with fail
            go_loopw [10, 11] (fun t j wr => ∃ q : Nat, q ≤ L.length ∧ j = .int .i64 (q : Int) ∧ t = .int .i64 ((cntA L lf q : Nat) : Int) ∧ Hid (IIn (w1.alloc (.cells #[.slice ao xs.length kp] 25)).heap.size w2.heap.size wr (.slice o2 L.length c2) L) ∧ Hid (IIn szr w6.heap.size wr (.slice (some ad) I.length c6) I) ∧ Hid (Below w.heap.size w wr)) (fun _ j _ => L.length - (intOf j).toNat)
            case atStart => exact ⟨0, by omega, rfl, by rw [cntA_zero]; rfl, hRr, hIr, hBr⟩
            case round =>
              clear hRr hIr hBr hck
              obtain ⟨q, hq, rfl, rfl, hRr, hIr, hBr⟩ := hrel
              by_cases hqt : q < L.length
              · have hqt2 : (q : Int) < (L.length : Int) := by omega
                have i4 : IntKind.i64.wrap ((q : Int) + 1) = (q : Int) + 1 := by simp [IntKind.wrap, IntKind.bits, IntKind.signed]; omega
                have hcl := cntA_le L lf q
                have Rd := hide (unhide hRr).drew
                have Id := hide (unhide hIr).drew
                have HBd := hide hBr.out.drew
                clear hRr hIr hBr
                obtain ⟨q0, q1, q2, _, _, q5⟩ := (unhide Rd).irow.form
                simp only [Value.slice.injEq] at q2
                obtain ⟨rfl, _, rfl⟩ := q2
                obtain ⟨ay, rfl, hcy⟩ := q5 q hqt
                clear q5
                by_cases hy : meetOf (L.getD q 0) lf = L.getD q 0
                · have C1 := hide (cntA_yes hqt hy)
                  have HY := hide hy
                  clear hy
                  generalize L.getD q 0 = y at hcy HY
                  obtain ⟨t, ht⟩ : ∃ t, cntA L lf q = t := ⟨_, rfl⟩
                  rw [ht] at C1 hcl ⊢
                  clear ht
                  have i5 : IntKind.i64.wrap ((t : Int) + 1) = (t : Int) + 1 := by simp [IntKind.wrap, IntKind.bits, IntKind.signed]; omega
                  go_wp2_with fail
                  refine wp_region_later (by kernel_rfl) ?_
                  refine later_take (i := 0) (d := 90) (v := ?_) (by kernel_rfl) (by kernel_rfl) (by kernel_rfl) (by kernel_rfl) (fun _ _ _ h => h) (fun oi hoi => ?_) ?_
                  rotate_left
                  · simp at hoi
                    subst hoi
                    refine ⟨by rfl, fun w' hw' => ?_⟩
                    go_simp
                    all_goals rfl
                  try simp only [Act.put, List.setIfInBounds_toArray, List.set_cons_zero, List.set_cons_succ]
                  refine later_take (i := 1) (d := 91) (v := ?_) (by kernel_rfl) (by kernel_rfl) (by kernel_rfl) (by kernel_rfl) (fun _ _ _ h => h) (fun oi hoi => ?_) ?_
                  rotate_left
                  · simp at hoi
                    subst hoi
                    refine ⟨by rfl, fun w' hw' => ?_⟩
                    go_simp
                    all_goals rfl
                  try simp only [Act.put, List.setIfInBounds_toArray, List.set_cons_zero, List.set_cons_succ]
                  refine later_take (i := 2) (d := 92) (v := ?_) (by kernel_rfl) (by kernel_rfl) (by kernel_rfl) (by kernel_rfl) (fun _ _ _ h => h) (fun oi hoi => ?_) ?_
                  rotate_left
                  · simp at hoi
                    subst hoi
                    refine ⟨by rfl, fun w' hw' => ?_⟩
                    go_simp
                    all_goals rfl
                  try simp only [Act.put, List.setIfInBounds_toArray, List.set_cons_zero, List.set_cons_succ]
                  refine later_take (i := 3) (d := 93) (v := ?_) (by kernel_rfl) (by kernel_rfl) (by kernel_rfl) (by kernel_rfl) (fun _ _ _ h => h) (fun oi hoi => ?_) ?_
                  rotate_left
                  · simp at hoi
                    subst hoi
                    refine ⟨by rfl, fun w' hw' => ?_⟩
                    have hx := (Below.cell hw' (cell_lt (w := wr.drew) hcy)).trans hcy
                    go_simp
                    all_goals rfl
                  try simp only [Act.put, List.setIfInBounds_toArray, List.set_cons_zero, List.set_cons_succ]
                  refine later_take (i := 4) (d := 94) (v := ?_) (by kernel_rfl) (by kernel_rfl) (by kernel_rfl) (by kernel_rfl) (fun _ _ _ h => h) (fun oi hoi => ?_) ?_
                  rotate_left
                  · simp at hoi
                    subst hoi
                    refine ⟨by rfl, fun w' hw' => ?_⟩
                    go_simp
                    all_goals rfl
                  try simp only [Act.put, List.setIfInBounds_toArray, List.set_cons_zero, List.set_cons_succ]
                  refine later_take (i := 6) (d := 96) (v := ?_) (by kernel_rfl) (by kernel_rfl) (by kernel_rfl) (by kernel_rfl) (fun _ _ _ h => h) (fun oi hoi => ?_) ?_
                  rotate_left
                  · simp at hoi
                    subst hoi
                    refine ⟨by rfl, fun w' hw' => ?_⟩
                    go_simp
                    all_goals rfl
                  try simp only [Act.put, List.setIfInBounds_toArray, List.set_cons_zero, List.set_cons_succ]
                  refine later_take (i := 7) (d := 97) (v := ?_) (by kernel_rfl) (by kernel_rfl) (by kernel_rfl) (by kernel_rfl) (fun _ _ _ h => h) (fun oi hoi => ?_) ?_
                  rotate_left
                  · simp at hoi
                    subst hoi
                    refine ⟨by rfl, fun w' hw' => ?_⟩
                    go_simp
                    all_goals rfl
                  try simp only [Act.put, List.setIfInBounds_toArray, List.set_cons_zero, List.set_cons_succ]
                  refine later_take (i := 8) (d := 98) (v := ?_) (by kernel_rfl) (by kernel_rfl) (by kernel_rfl) (by kernel_rfl) (fun _ _ _ h => h) (fun oi hoi => ?_) ?_
                  rotate_left
                  · simp at hoi
                    subst hoi
                    refine ⟨by rfl, fun w' hw' => ?_⟩
                    go_simp
                    all_goals rfl
                  try simp only [Act.put, List.setIfInBounds_toArray, List.set_cons_zero, List.set_cons_succ]
                  refine later_take (i := 9) (d := 99) (v := ?_) (by kernel_rfl) (by kernel_rfl) (by kernel_rfl) (by kernel_rfl) (fun _ _ _ h => h) (fun oi hoi => ?_) ?_
                  rotate_left
                  · simp at hoi
                    subst hoi
                    refine ⟨by rfl, fun w' hw' => ?_⟩
                    have hx := (Below.cell hw' (cell_lt (w := wr.drew) hcy)).trans hcy
                    go_simp
                    all_goals rfl
                  try simp only [Act.put, List.setIfInBounds_toArray, List.set_cons_zero, List.set_cons_succ]
                  refine later_one (i := 5) (by kernel_rfl) (fun oi K hoi hK => ?_)
                  simp at hoi
                  subst hoi
                  refine ⟨by rfl, ?_⟩
                  go_simp
                  refine (iTreMeet_any y lf _).mono ?_
                  rw [HY.out]
                  rintro e wm ⟨rfl, hbm⟩
                  go_simp
                  refine hK.out _ _ hbm ?_
                  clear hK
                  have Rm := hide ((unhide Rd).below hbm)
                  have Im := hide ((unhide Id).below hbm)
                  have HBm := hide (HBd.out.trans (hbm.mono HBd.out.size))
                  clear hbm
                  try simp only [Act.put, List.setIfInBounds_toArray, List.set_cons_zero, List.set_cons_succ]
                  refine later_take (i := 10) (d := 100) (v := ?_) (by kernel_rfl) (by kernel_rfl) (by kernel_rfl) (by kernel_rfl) (fun _ _ _ h => h) (fun oi hoi => ?_) ?_
                  rotate_left
                  · simp at hoi
                    subst hoi
                    refine ⟨by rfl, fun w' hw' => ?_⟩
                    go_simp
                    all_goals rfl
                  try simp only [Act.put, List.setIfInBounds_toArray, List.set_cons_zero, List.set_cons_succ]
                  refine later_done (by kernel_rfl) ?_ _
                  go_wp2_with fail
                  go_roundw
                  case rel => exact ⟨q + 1, by omega, by simp, by rw [C1.out]; simp, Rm, Im, HBm⟩
                  case measure => simp [intOf]; omega
                · have C1 := hide (cntA_no hqt hy)
                  generalize L.getD q 0 = y at hcy hy
                  obtain ⟨mm, hmm⟩ : ∃ mm, meetOf y lf = mm := ⟨_, rfl⟩
                  rw [hmm] at hy
                  have HMM := hide hmm
                  have d5 : (mm == y) = false := by simpa using hy
                  obtain ⟨t, ht⟩ : ∃ t, cntA L lf q = t := ⟨_, rfl⟩
                  rw [ht] at C1 hcl ⊢
                  clear ht hmm hy
                  go_wp2_with fail
                  refine wp_region_later (by kernel_rfl) ?_
                  refine later_take (i := 0) (d := 90) (v := ?_) (by kernel_rfl) (by kernel_rfl) (by kernel_rfl) (by kernel_rfl) (fun _ _ _ h => h) (fun oi hoi => ?_) ?_
                  rotate_left
                  · simp at hoi
                    subst hoi
                    refine ⟨by rfl, fun w' hw' => ?_⟩
                    go_simp
                    all_goals rfl
                  try simp only [Act.put, List.setIfInBounds_toArray, List.set_cons_zero, List.set_cons_succ]
                  refine later_take (i := 1) (d := 91) (v := ?_) (by kernel_rfl) (by kernel_rfl) (by kernel_rfl) (by kernel_rfl) (fun _ _ _ h => h) (fun oi hoi => ?_) ?_
                  rotate_left
                  · simp at hoi
                    subst hoi
                    refine ⟨by rfl, fun w' hw' => ?_⟩
                    go_simp
                    all_goals rfl
                  try simp only [Act.put, List.setIfInBounds_toArray, List.set_cons_zero, List.set_cons_succ]
                  refine later_take (i := 2) (d := 92) (v := ?_) (by kernel_rfl) (by kernel_rfl) (by kernel_rfl) (by kernel_rfl) (fun _ _ _ h => h) (fun oi hoi => ?_) ?_
                  rotate_left
                  · simp at hoi
                    subst hoi
                    refine ⟨by rfl, fun w' hw' => ?_⟩
                    go_simp
                    all_goals rfl
                  try simp only [Act.put, List.setIfInBounds_toArray, List.set_cons_zero, List.set_cons_succ]
                  refine later_take (i := 3) (d := 93) (v := ?_) (by kernel_rfl) (by kernel_rfl) (by kernel_rfl) (by kernel_rfl) (fun _ _ _ h => h) (fun oi hoi => ?_) ?_
                  rotate_left
                  · simp at hoi
                    subst hoi
                    refine ⟨by rfl, fun w' hw' => ?_⟩
                    have hx := (Below.cell hw' (cell_lt (w := wr.drew) hcy)).trans hcy
                    go_simp
                    all_goals rfl
                  try simp only [Act.put, List.setIfInBounds_toArray, List.set_cons_zero, List.set_cons_succ]
                  refine later_take (i := 4) (d := 94) (v := ?_) (by kernel_rfl) (by kernel_rfl) (by kernel_rfl) (by kernel_rfl) (fun _ _ _ h => h) (fun oi hoi => ?_) ?_
                  rotate_left
                  · simp at hoi
                    subst hoi
                    refine ⟨by rfl, fun w' hw' => ?_⟩
                    go_simp
                    all_goals rfl
                  try simp only [Act.put, List.setIfInBounds_toArray, List.set_cons_zero, List.set_cons_succ]
                  refine later_take (i := 6) (d := 96) (v := ?_) (by kernel_rfl) (by kernel_rfl) (by kernel_rfl) (by kernel_rfl) (fun _ _ _ h => h) (fun oi hoi => ?_) ?_
                  rotate_left
                  · simp at hoi
                    subst hoi
                    refine ⟨by rfl, fun w' hw' => ?_⟩
                    go_simp
                    all_goals rfl
                  try simp only [Act.put, List.setIfInBounds_toArray, List.set_cons_zero, List.set_cons_succ]
                  refine later_take (i := 7) (d := 97) (v := ?_) (by kernel_rfl) (by kernel_rfl) (by kernel_rfl) (by kernel_rfl) (fun _ _ _ h => h) (fun oi hoi => ?_) ?_
                  rotate_left
                  · simp at hoi
                    subst hoi
                    refine ⟨by rfl, fun w' hw' => ?_⟩
                    go_simp
                    all_goals rfl
                  try simp only [Act.put, List.setIfInBounds_toArray, List.set_cons_zero, List.set_cons_succ]
                  refine later_take (i := 8) (d := 98) (v := ?_) (by kernel_rfl) (by kernel_rfl) (by kernel_rfl) (by kernel_rfl) (fun _ _ _ h => h) (fun oi hoi => ?_) ?_
                  rotate_left
                  · simp at hoi
                    subst hoi
                    refine ⟨by rfl, fun w' hw' => ?_⟩
                    go_simp
                    all_goals rfl
                  try simp only [Act.put, List.setIfInBounds_toArray, List.set_cons_zero, List.set_cons_succ]
                  refine later_take (i := 9) (d := 99) (v := ?_) (by kernel_rfl) (by kernel_rfl) (by kernel_rfl) (by kernel_rfl) (fun _ _ _ h => h) (fun oi hoi => ?_) ?_
                  rotate_left
                  · simp at hoi
                    subst hoi
                    refine ⟨by rfl, fun w' hw' => ?_⟩
                    have hx := (Below.cell hw' (cell_lt (w := wr.drew) hcy)).trans hcy
                    go_simp
                    all_goals rfl
                  try simp only [Act.put, List.setIfInBounds_toArray, List.set_cons_zero, List.set_cons_succ]
                  refine later_one (i := 5) (by kernel_rfl) (fun oi K hoi hK => ?_)
                  simp at hoi
                  subst hoi
                  refine ⟨by rfl, ?_⟩
                  go_simp
                  refine (iTreMeet_any y lf _).mono ?_
                  rw [HMM.out]
                  rintro e wm ⟨rfl, hbm⟩
                  go_simp
                  refine hK.out _ _ hbm ?_
                  clear hK
                  have Rm := hide ((unhide Rd).below hbm)
                  have Im := hide ((unhide Id).below hbm)
                  have HBm := hide (HBd.out.trans (hbm.mono HBd.out.size))
                  clear hbm
                  try simp only [Act.put, List.setIfInBounds_toArray, List.set_cons_zero, List.set_cons_succ]
                  refine later_take (i := 10) (d := 100) (v := ?_) (by kernel_rfl) (by kernel_rfl) (by kernel_rfl) (by kernel_rfl) (fun _ _ _ h => h) (fun oi hoi => ?_) ?_
                  rotate_left
                  · simp at hoi
                    subst hoi
                    refine ⟨by rfl, fun w' hw' => ?_⟩
                    go_simp
                    all_goals rfl
                  try simp only [Act.put, List.setIfInBounds_toArray, List.set_cons_zero, List.set_cons_succ]
                  refine later_done (by kernel_rfl) ?_ _
                  go_wp2_with fail
                  go_roundw
                  case rel => exact ⟨q + 1, by omega, by simp, by rw [C1.out], Rm, Im, HBm⟩
                  case measure => simp [intOf]; omega
              · have hqt2 : decide ((q : Int) < (L.length : Int)) = false := by simp; omega
                have hqn : q = L.length := by omega
                subst hqn
                rw [HC.out]
                obtain ⟨mm, hmm⟩ : ∃ mm, meetOf lf (n : Int) = mm := ⟨_, rfl⟩
                rw [hmm]
                have HMM := hide hmm
                clear hmm hq hqt
                by_cases hy : mm = (n : Int)
                · subst hy
                  rw [if_pos rfl]
                  go_wp2_with fail
                  refine (iTreMeet_any lf (n : Int) _).mono ?_
                  rw [HMM.out]
                  rintro e wB ⟨rfl, hbB⟩
                  have R1 := hide ((unhide hRr).below hbB)
                  have I1 := hide ((unhide hIr).below hbB)
                  have B1 := hide (hBr.out.trans (hbB.mono hBr.out.size))
                  clear hbB hRr hIr hBr
                  go_wp2_with fail
                  refine (iTreMeet_any lf (n : Int) _).mono ?_
                  rw [HMM.out]
                  rintro e wC ⟨rfl, hbC⟩
                  have R2 := hide ((unhide R1).below hbC)
                  have I2 := hide ((unhide I1).below hbC)
                  have B2 := hide (B1.out.trans (hbC.mono B1.out.size))
                  clear hbC R1 I1 B1
                  go_wp2_with fail
                  go_roundw
                  case rel => exact ⟨k + 1, by omega, by simp, R2, I2, B2⟩
                  case measure => simp [intOf]; omega
                · rw [if_neg hy]
                  have d5 : (mm == (n : Int)) = false := by simpa using hy
                  have d6 : (mm != (n : Int)) = true := by simpa using hy
                  go_wp2_with fail
                  refine (iTreMeet_any lf (n : Int) _).mono ?_
                  rw [HMM.out]
                  rintro e wB ⟨rfl, hbB⟩
                  have R1 := hide ((unhide hRr).below hbB)
                  have I1 := hide ((unhide hIr).below hbB)
                  have B1 := hide (hBr.out.trans (hbB.mono hBr.out.size))
                  clear hbB hRr hIr hBr
                  go_wp2_with fail
                  refine (iTreMeet_any lf (n : Int) _).mono ?_
                  rw [HMM.out]
                  rintro e wC ⟨rfl, hbC⟩
                  have R2 := hide ((unhide R1).below hbC)
                  have I2 := hide ((unhide I1).below hbC)
                  have B2 := hide (B1.out.trans (hbC.mono B1.out.size))
                  clear hbC R1 I1 B1
                  go_wp2_with fail
                  go_roundw
                  case rel => exact ⟨k + 1, by omega, by simp, R2, I2, B2⟩
                  case measure => simp [intOf]; omega
          · have hlt2 : decide ((k : Int) < (I.length : Int)) = false := by simp; omega
            go_wp2_with fail
            refine (keOk_any _).mono ?_
            rintro e wk ⟨rfl, hbk⟩
            go_wp2_with fail
            go_ret
            exact ⟨rfl, hBr.out.trans (hbk.mono hBr.out.size)⟩
  · have hL : Hid (covRes xs p = []) := by
      show _ = _
      unfold covRes
      split
      · next q => exact covR_out xs p (fun z => hok ⟨q, z⟩)
      · rfl
    have HOK := hide hok
    rw [hL.out]
    cases q : treOk xs with
    | false =>
      clear hok q
      go_wp2_with fail
      refine (keOk_any _).mono ?_
      rintro e wk ⟨rfl, hbk⟩
      go_wp2_with fail
      go_ret
      exact ⟨rfl, HB5.out.trans (hbk.mono HB5.out.size)⟩
    | true =>
      by_cases d1 : p < 0
      · clear hok q
        go_wp2_with fail
        refine (keOk_any _).mono ?_
        rintro e wk ⟨rfl, hbk⟩
        go_wp2_with fail
        go_ret
        exact ⟨rfl, HB5.out.trans (hbk.mono HB5.out.size)⟩
      · have d2 : decide (p < 0) = false := by simpa using d1
        have d3 : 15 ≤ p := by have h := HOK.out; rw [q] at h; simp at h; omega
        clear hok q d1
        go_wp2_with fail
        refine (keOk_any _).mono ?_
        rintro e wk ⟨rfl, hbk⟩
        go_wp2_with fail
        go_ret
        exact ⟨rfl, HB5.out.trans (hbk.mono HB5.out.size)⟩
#print axioms walk_FnTreCover

set_option maxRecDepth 100000 in
theorem lifted_FnTreCover (os : Os) (started : os.Started) (H : Type) (enc : TypeId × Value → H) :
    ReturnsInHanded {} Try.checked os 3 .any (Rows.fnTreCoverSpec.pre6 enc Try.prog Try.f3 Rows.fnTreCoverRow.domain false) (Rows.fnTreCoverSpec.post enc Try.prog Try.f3 false true false false) := by
  refine returnsInHanded_of_change (C := Try.checked) own started (by kernel_rfl) Try.func3
    (ChangeSpec.witness6 (enc := enc) (C := Try.checked) false ⟨#[], #[.slice none 0 0], []⟩ 8 (by kernel_rfl) (by kernel_rfl) (by kernel_rfl) (by kernel_rfl)) ?_
  intro W base args ds gs before hval0 hW hcnd _
  have hval : ∀ (j : Nat) t v, Try.f3.params[j]? = some t → args[j]? = some v → Value.okWide Try.prog W .any base t v := hval0
  have hW' := hW
  obtain ⟨p, q, hA0, hV, rfl, hfz, hnd⟩ := hW
  have hA : DataW.TrodAll enc Try.prog W 0 (fun _ => true) true Try.f3.params.toList args.toList ds p := hA0
  rw [Try.params3] at hA hval
  obtain ⟨v0, vs0, d0, ds0, p0, q0, hargs, rfl, rfl, h0, r0⟩ := trodAll_cons hA
  obtain ⟨rfl, rfl, rfl⟩ := trodAll_nil r0
  obtain rfl : args = #[v0] := by cases args; simp_all
  obtain ⟨rfl, rfl⟩ := trodVars_none hV
  obtain ⟨a0, len0, cap0, rfl⟩ := okWide_slice Try.underlying22 (hval 0 22 v0 rfl rfl)
  have k0 := h0
  have lt0 : ∀ x ∈ p0, x.block < W.heap.size := by obtain ⟨m, hm⟩ := k0; exact DataW.trod_lt m _ _ _ hm
  obtain ⟨z0, w0⟩ : ∃ zs, IsRow .u8 W a0 len0 cap0 zs := by
    obtain ⟨fuel, hf⟩ := h0
    rcases open_ints Try.underlying22 Try.underlying5 (by kernel_rfl) hf with ⟨hcs, _⟩ | ⟨x, l, c, zs, hcs, _, hl, hm, hz, _, hcell, hwz⟩
    · simp [Value.cells] at hcs
      obtain ⟨rfl, rfl, rfl⟩ := hcs
      exact ⟨[], .inl ⟨rfl, rfl, rfl, rfl⟩⟩
    · simp [Value.cells] at hcs
      obtain ⟨rfl, rfl, rfl⟩ := hcs
      exact ⟨zs, .inr ⟨_, rfl, hl, hm, by simpa using hz, hcell, hwz⟩⟩
  clear hA0 hval0
  refine (walk_FnTreCover a0 len0 cap0 z0 W w0).mono fun e W' ⟨he, bel⟩ => ?_
  subst he
  exact ⟨_, rfl, _, _, _, [], _, [], hW', trodAll_mk1 (shut_bool Try.underlying4 _), (trodAll_cons_mk (Below.trod laidOut (by kernel_rfl) (of_decide_eq_true (by kernel_rfl)) k0 bel lt0) trodAll_mk0), rfl, bel.frame _, fun h => by cases h⟩

theorem fnTreCover_holds : Rows.FnTreCoverSaid :=
  OpenClaim.holds_of_wide 3 Try.f3 rfl rfl rfl rfl rfl rfl rfl ⟨rfl, rfl, rfl, rfl, rfl⟩ rfl rfl rfl rfl rfl (by kernel_rfl) Try.func3 (by kernel_rfl)
    (of_decide_eq_true (by kernel_rfl)) (by unfold Func.isWrapper; first | (rw [if_pos (by decide +kernel)]; kernel_rfl) | (rw [if_neg (by decide +kernel)]; exact ⟨rfl, rfl⟩))
    (fun os started H enc _ => lifted_FnTreCover os started H enc)

#print axioms fnTreCover_holds
end Go.Proofs.Ytjmnfdfnndoffaa
