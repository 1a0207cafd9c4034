/-
  The specification's TreClear.
-/
import Derived.Test.YticmbajfdpchnaaTClr0
import Derived.Test.YticmbajfdpchnaaTreS
import Derived.Test.YticmbajfdpchnaaAppR
import Derived.Test.YticmbajfdpchnaaOrdR
import Derived.Test.YticmbajfdpchnaaRowInI
namespace Go.Proofs.Yticmbajfdpchnaa
open Go.RowKit

set_option maxRecDepth 100000 in
set_option maxHeartbeats 2000000 in
theorem l3Copy_any (v : Value) (xs : List ByteArray) (w : World) (h : SRow w v xs) (hl : xs.length ≤ 1048576) :
    Calls Try.prog 35 #[.agg #[v]] w fun e w' => ∃ u, e = .returned (.agg #[u]) ∧ Own w.heap.size w' u xs ∧ Below w.heap.size w w' := by
  obtain ⟨i0, hi, hz0, hz1, hz2⟩ := info_parts info_str2
  have hI := hide (And.intro hi (And.intro hz0 (And.intro hz1 hz2)))
  clear hi hz0 hz1 hz2
  have hR := hide h
  obtain ⟨ao, cap, rfl, _, _, _⟩ := h.form
  clear h
  have NW : Hid _ := (((((unhide hR).below ((Below.refl _ _).alloc (Nat.le_refl _) (.cells #[.slice ao xs.length cap] 25))).below ((Below.refl _ _).alloc (Nat.le_refl _) (.cells #[.slice none 0 0] 25))).below ((Below.refl _ _).alloc (Nat.le_refl _) (.cells #[] 9)))).news
  have hB0 : Hid (Below w.heap.size w (((w.alloc (.cells #[.slice ao xs.length cap] 25)).alloc (.cells #[.slice none 0 0] 25)).alloc (.cells #[] 9))) := (((Below.refl _ _).alloc (Nat.le_refl _) _).alloc (by simp) _).alloc (by simp; omega) _
  have b1 := ((Boxed.new (w.alloc (.cells #[.slice ao xs.length cap] 25)) 25 (.slice none 0 0))).alloc (.cells #[] 9)
  rw [World.size_alloc] at b1
  have B1 := hide b1
  have hO : Hid ((((w.alloc (.cells #[.slice ao xs.length cap] 25)).alloc (.cells #[.slice none 0 0] 25)).alloc (.cells #[] 9)).ownsRow w.heap.size 9 1 (.slice (some ⟨w.heap.size + 1 + 1, 0, none⟩) 0 0) 0 []) := by
    have q := World.ownsRow_lit (base := w.heap.size) (e := 9) (size := 1) ((w.alloc (.cells #[.slice ao xs.length cap] 25)).alloc (.cells #[.slice none 0 0] 25)) #[] 0 (by simp; omega) (by unfold maxLen; omega) rfl
    simp only [World.size_alloc] at q
    exact q
  clear b1
  go_enter Try.func35, Try.ntmps35
  go_wp2_with (at_builtin; refine wpList_append_row _ rfl _ _ 23 rfl w.heap.size 9 i0 (.string ⟨#[]⟩) 1 16 Try.underlying23 (unhide hI).1 (unhide hI).2.1 (unhide hI).2.2.1 (unhide hI).2.2.2 rfl (by decide) _ _ _ rfl (unhide hO) _ _ _ rfl (unhide NW) (texts_one _) (by unfold maxLen; omega) (by omega) (by simp; omega) ?_)
  intro v2 w2 ho2 hg2
  have ho2 : w2.ownsRow w.heap.size 9 1 v2 xs.length (xs.map Value.string) := by first | exact ho2 | simpa using ho2
  have hBg : Hid (Below w.heap.size w w2) := (unhide hB0).grown hg2 (by simp; omega) (fun z hz => by simp [Value.ownBlock] at hz; omega)
  have B2 := box_grown (unhide B1) (unhide hO) (by decide) hg2
  obtain ⟨o2, c2, hv2⟩ := row_form' ho2
  subst hv2
  have l1 := B2.cell
  have l2 := B2.frozen
  have l3 := (B2.set (.slice o2 xs.length c2)).cell
  have R2 := hide (row_box ho2 B2 (by decide) (.slice o2 xs.length c2))
  have HB2 := hide (below_box (unhide hBg) (b := w.heap.size + 1) (by omega) (.slice o2 xs.length c2))
  clear ho2 hg2 B2 hO B1 NW hB0 hBg
  go_wp2_with fail
  refine bodyPost_ret (v := .agg #[.slice o2 xs.length c2]) (by simp [results, Try.results35, go_sem, l3]) rfl ⟨_, rfl, unhide R2, unhide HB2⟩
#print axioms l3Copy_any

set_option maxRecDepth 100000 in
set_option maxHeartbeats 4000000 in
theorem l3Clear_any (B g c : Nat) (xs : List ByteArray) (hl : xs.length = 15) (k : Nat) (hk : k < 8) (w : World) (h : w.ownsRow B 9 1 (.slice (some ⟨g, 0, none⟩) 15 c) 15 (xs.map Value.string)) :
    Calls Try.prog 62 #[.agg #[.slice (some ⟨g, 0, none⟩) 15 c], .int .i64 (k : Int)] w fun e w' => e = .returned (.agg #[.slice (some ⟨g, 0, none⟩) 15 c]) ∧ w'.ownsRow B 9 1 (.slice (some ⟨g, 0, none⟩) 15 c) 15 ((clearOf xs k).map Value.string) ∧ w.grownBy w' (some g) := by
  obtain ⟨_, _, e0, hg1, hg2, hg3, hg4⟩ := row15 h
  simp only [Value.slice.injEq, Option.some.injEq, Addr.mk.injEq, true_and, and_true] at e0
  obtain ⟨rfl, rfl⟩ := e0
  have hLf : Hid (leafOf (k : Int) = ((7 + k : Nat) : Int)) := by show _ = _; unfold leafOf; rw [if_pos (by omega)]; omega
  have HUP : Hid (upOf ((7 + k : Nat) : Int) = ints (ups (7 + k))) := by show upOf _ = _; unfold upOf; rw [if_pos (by omega)]; rfl
  have hul := ups_len (7 + k) (by omega)
  have hult := ups_lt (7 + k) (by omega)
  have HEND : Hid (clearOf xs k = wipe xs ([7 + k] ++ (ups (7 + k)).take (ups (7 + k)).length)) := by show _ = _; rw [List.take_length]; rfl
  generalize hN : ups (7 + k) = N at *
  clear hN
  obtain ⟨lf, hlf⟩ : ∃ lf : Nat, lf = 7 + k := ⟨_, rfl⟩
  rw [← hlf] at hLf HUP HEND
  have hlf2 : lf < 15 := by omega
  have jl : (lf : Int) < 15 := by omega
  clear hlf
  have hrW := own_below' (own_below' h ((Below.refl _ _).alloc (Nat.le_refl _) (.cells #[.slice (some ⟨g, 0, none⟩) 15 c] 25))) ((Below.refl _ _).alloc (Nat.le_refl _) (.cells #[.slice none 0 0] 25))
  obtain ⟨s1, s2, _, _⟩ := row15_set hl hrW lf hlf2 ByteArray.empty
  obtain ⟨_, _, s3, s4⟩ := row15_set hl h lf hlf2 ByteArray.empty
  have hse : (w.setCell ⟨g, lf, none⟩ (.string ByteArray.empty)).heap.size = w.heap.size := by simp [World.setCell]
  have bA := (Boxed.new (w.setCell ⟨g, lf, none⟩ (.string ByteArray.empty)) 25 (.slice (some ⟨g, 0, none⟩) 15 c)).alloc (.cells #[.slice none 0 0] 25)
  have bR := Boxed.new ((w.setCell ⟨g, lf, none⟩ (.string ByteArray.empty)).alloc (.cells #[.slice (some ⟨g, 0, none⟩) 15 c] 25)) 25 (.slice none 0 0)
  rw [World.size_alloc, hse] at bR
  rw [hse] at bA
  have bA2 := hide bA
  have bR2 := hide bR
  have S3 : Hid _ := own_below' (own_below' s3 ((Below.refl _ _).alloc (Nat.le_refl _) (.cells #[.slice (some ⟨g, 0, none⟩) 15 c] 25))) ((Below.refl _ _).alloc (Nat.le_refl _) (.cells #[.slice none 0 0] 25))
  have hG2 : Hid (w.grownBy (((w.setCell ⟨g, lf, none⟩ (.string ByteArray.empty)).alloc (.cells #[.slice (some ⟨g, 0, none⟩) 15 c] 25)).alloc (.cells #[.slice none 0 0] 25)) (some g)) := (s4.trans (World.grownBy_alloc _ _ _)).trans (World.grownBy_alloc _ _ _)
  have HL := hide hl
  generalize xs.getD lf ByteArray.empty = old at s1
  clear h hrW bA bR s3 s4 hl
  go_enter Try.func62, Try.ntmps62
  go_wp2_with fail
  refine (sTreLeaf_any _ _).mono ?_
  rw [hLf.out]
  rintro e wz ⟨rfl, rfl⟩
  go_wp2_with fail
  refine (sTreUp_any _ _).mono ?_
  rw [HUP.out]
  rintro e w2 ⟨u2, rfl, ho2, hb2⟩
  have U2 := hide (IIn.of ho2)
  have hs2 := hb2.size
  have A2 := hide (box_below (unhide bA2) hb2)
  have R2 := hide (box_below (unhide bR2) hb2)
  have O2 := hide (own_below' (unhide S3) hb2)
  have G2 : Hid (w.grownBy w2 (some g)) := ⟨hb2.os.trans hG2.out.os, hb2.tape.trans hG2.out.tape, hb2.output.trans hG2.out.output, Nat.le_trans hG2.out.size hb2.size, fun j hj hr => (hb2.block j (Nat.lt_of_lt_of_le hj hG2.out.size)).trans (hG2.out.block j hj hr)⟩
  have hgs : (((w.setCell ⟨g, lf, none⟩ (.string ⟨#[]⟩)).alloc (.cells #[.slice (some ⟨g, 0, none⟩) 15 c] 25)).alloc (.cells #[.slice none 0 0] 25)).heap.size = w.heap.size + 2 := by simp [World.setCell]
  rw [hgs] at U2 hs2
  obtain ⟨uo, uc, hu⟩ := row_form' ho2
  subst hu
  rw [show (ints N).length = N.length by simp [ints]] at *
  clear ho2 hb2 bA2 bR2 S3 hG2 s1 s2 hgs
  go_wp2_with fail
  go_loopw [7] (fun i wr => ∃ j : Nat, j ≤ N.length ∧ i = .int .i64 (j : Int) ∧ Hid (wr.ownsRow B 9 1 (.slice (some ⟨g, 0, none⟩) 15 c) 15 ((wipe xs ([lf] ++ N.take j)).map Value.string)) ∧ Hid (IIn (w.heap.size + 2) w2.heap.size wr (.slice uo N.length uc) (ints N)) ∧ Hid (Boxed wr w.heap.size 25 (.slice (some ⟨g, 0, none⟩) 15 c)) ∧ Hid (Boxed wr (w.heap.size + 1) 25 (.slice none 0 0)) ∧ Hid (w.grownBy wr (some g))) (fun i _ => N.length - (intOf i).toNat)
  case atStart => exact ⟨0, by omega, rfl, O2, U2, A2, R2, G2⟩
  case round =>
    clear O2 U2 A2 R2 G2
    obtain ⟨j, hj, rfl, hO, hU, hA, hR, hG⟩ := hrel
    by_cases hlt : j < N.length
    · have hlt2 : (j : Int) < (N.length : Int) := by omega
      have i3 : IntKind.i64.wrap ((j : Int) + 1) = (j : Int) + 1 := by simp [IntKind.wrap, IntKind.bits, IntKind.signed]; omega
      obtain ⟨q0, q1, q2, _, _, q5⟩ := (unhide hU).irow.form
      rw [show (ints N).length = N.length by simp [ints]] at q2 q5
      simp only [Value.slice.injEq] at q2
      obtain ⟨rfl, _, rfl⟩ := q2
      obtain ⟨ad, rfl, hck⟩ := q5 j hlt
      have hnj : (ints N).getD j 0 = ((N.getD j 0 : Nat) : Int) := by
        unfold ints
        rw [List.getD_eq_getElem?_getD, List.getElem?_map, List.getD_eq_getElem?_getD, List.getElem?_eq_getElem hlt]
        rfl
      rw [hnj] at hck
      have hnl : N.getD j 0 < 7 := hult _ (by rw [List.getD_eq_getElem?_getD, List.getElem?_eq_getElem hlt]; exact List.getElem_mem hlt)
      have HTK : Hid (wipe xs ([lf] ++ N.take (j + 1)) = (wipe xs ([lf] ++ N.take j)).set (N.getD j 0) ByteArray.empty) := by
        show _ = _
        rw [List.take_succ_eq_append_getElem hlt, ← List.append_assoc, wipe_snoc, List.getD_eq_getElem?_getD, List.getElem?_eq_getElem hlt]
        rfl
      generalize N.getD j 0 = q at hck hnl HTK
      have hq2 : (q : Int) < 15 := by omega
      obtain ⟨s1, s2, s3, s4⟩ := row15_set (w := wr.drew) (by rw [wipe_len]; exact HL.out) (unhide hO) q (by omega) ByteArray.empty
      have S3 : Hid _ := s3
      have A3 : Hid _ := box_grown (w := wr.drew) (unhide hA) (unhide hO) (by decide) s4
      have R3 : Hid _ := box_grown (w := wr.drew) (unhide hR) (unhide hO) (by decide) s4
      have U3 : Hid (IIn (w.heap.size + 2) w2.heap.size (wr.drew.setCell ⟨g, q, none⟩ (.string ByteArray.empty)) (.slice (some ad) N.length uc) (ints N)) := RowIn.grown (w := wr.drew) (unhide hU) s4 (fun z hz => .inl (by cases hz; omega))
      have G3 : Hid (w.grownBy (wr.drew.setCell ⟨g, q, none⟩ (.string ByteArray.empty)) (some g)) := (grown_drew (unhide hG)).trans s4
      generalize (wipe xs ([lf] ++ N.take j)).getD q ByteArray.empty = old2 at s1
      clear s3 s4 q5
      go_wp2_with fail
      refine wp_region_later (by kernel_rfl) ?_
      refine later_take (i := 0) (d := 22) (v := ?_) (by kernel_rfl) (by kernel_rfl) (by kernel_rfl) (by kernel_rfl) (fun _ _ _ h => h) (fun oi hoi => ?_) ?_
      rotate_left
      · simp at hoi
        subst hoi
        refine ⟨by rfl, fun w' hw' => ?_⟩
        go_simp
        all_goals rfl
      try simp only [Act.put, List.setIfInBounds_toArray, List.set_cons_zero, List.set_cons_succ]
      refine later_take (i := 1) (d := 23) (v := ?_) (by kernel_rfl) (by kernel_rfl) (by kernel_rfl) (by kernel_rfl) (fun _ _ _ h => h) (fun oi hoi => ?_) ?_
      rotate_left
      · simp at hoi
        subst hoi
        refine ⟨by rfl, fun w' hw' => ?_⟩
        have hx := (box_below (w := wr.drew) (unhide hA) hw').cell
        go_simp
        all_goals rfl
      try simp only [Act.put, List.setIfInBounds_toArray, List.set_cons_zero, List.set_cons_succ]
      refine later_take (i := 2) (d := 24) (v := ?_) (by kernel_rfl) (by kernel_rfl) (by kernel_rfl) (by kernel_rfl) (fun _ _ _ h => h) (fun oi hoi => ?_) ?_
      rotate_left
      · simp at hoi
        subst hoi
        refine ⟨by rfl, fun w' hw' => ?_⟩
        go_simp
        all_goals rfl
      try simp only [Act.put, List.setIfInBounds_toArray, List.set_cons_zero, List.set_cons_succ]
      refine later_take (i := 3) (d := 25) (v := ?_) (by kernel_rfl) (by kernel_rfl) (by kernel_rfl) (by kernel_rfl) (fun _ _ _ h => h) (fun oi hoi => ?_) ?_
      rotate_left
      · simp at hoi
        subst hoi
        refine ⟨by rfl, fun w' hw' => ?_⟩
        go_simp
        all_goals rfl
      try simp only [Act.put, List.setIfInBounds_toArray, List.set_cons_zero, List.set_cons_succ]
      refine later_take (i := 4) (d := 26) (v := ?_) (by kernel_rfl) (by kernel_rfl) (by kernel_rfl) (by kernel_rfl) (fun _ _ _ h => h) (fun oi hoi => ?_) ?_
      rotate_left
      · simp at hoi
        subst hoi
        refine ⟨by rfl, fun w' hw' => ?_⟩
        go_simp
        all_goals rfl
      try simp only [Act.put, List.setIfInBounds_toArray, List.set_cons_zero, List.set_cons_succ]
      refine later_take (i := 5) (d := 27) (v := ?_) (by kernel_rfl) (by kernel_rfl) (by kernel_rfl) (by kernel_rfl) (fun _ _ _ h => h) (fun oi hoi => ?_) ?_
      rotate_left
      · simp at hoi
        subst hoi
        refine ⟨by rfl, fun w' hw' => ?_⟩
        have hx := (Below.cell hw' (cell_lt (w := wr.drew) hck)).trans hck
        go_simp
        all_goals rfl
      try simp only [Act.put, List.setIfInBounds_toArray, List.set_cons_zero, List.set_cons_succ]
      refine later_take (i := 6) (d := 28) (v := ?_) (by kernel_rfl) (by kernel_rfl) (by kernel_rfl) (by kernel_rfl) (fun _ _ _ h => h) (fun oi hoi => ?_) ?_
      rotate_left
      · simp at hoi
        subst hoi
        refine ⟨by rfl, fun w' hw' => ?_⟩
        go_simp
        all_goals rfl
      try simp only [Act.put, List.setIfInBounds_toArray, List.set_cons_zero, List.set_cons_succ]
      refine ord_last (i := 7) (by kernel_rfl) (by kernel_rfl) (by kernel_rfl) (fun oi K hoi hK => ?_)
      simp at hoi
      subst hoi
      refine ⟨by rfl, ?_⟩
      go_simp
      refine hK.out _ _ ?_
      clear hK
      try simp only [Act.put, List.setIfInBounds_toArray, List.set_cons_zero, List.set_cons_succ]
      go_wp2_with fail
      go_roundw
      case rel => exact ⟨j + 1, by omega, by simp, by rw [HTK.out]; exact unhide S3, U3, A3, R3, G3⟩
      case measure => simp [intOf]; omega
    · have hlt2 : decide ((j : Int) < (N.length : Int)) = false := by simp; omega
      obtain rfl : j = N.length := by omega
      have l1 := (unhide hA).cell
      have l2 := (unhide hR).cell
      have l3 := (unhide hR).frozen
      have l4 := ((unhide hR).set (.slice (some ⟨g, 0, none⟩) 15 c)).cell
      have O4 : Hid _ := row_box (unhide hO) (unhide hR) (by decide) (.slice (some ⟨g, 0, none⟩) 15 c)
      have G4 : Hid (w.grownBy (wr.setCell ⟨w.heap.size + 1, 0, none⟩ (.slice (some ⟨g, 0, none⟩) 15 c)) (some g)) := by
        have q := unhide hG
        refine ⟨q.os, q.tape, q.output, by simpa [World.setCell] using q.size, fun z hz hr => ?_⟩
        rw [Below.heap_setCell wr ⟨w.heap.size + 1, 0, none⟩ _ z (by show z ≠ w.heap.size + 1; omega)]
        exact q.block z hz hr
      go_wp2_with fail
      refine bodyPost_ret (v := .agg #[.slice (some ⟨g, 0, none⟩) 15 c]) (by simp [results, Try.results62, go_sem, l4]) rfl ⟨rfl, ?_, unhide G4⟩
      rw [HEND.out]
      exact unhide O4
#print axioms l3Clear_any

set_option maxRecDepth 100000 in
set_option maxHeartbeats 2000000 in
theorem sTreClear_any (v : Value) (xs : List ByteArray) (p : Int) (w : World) (h : SRow w v xs) (hx : ∀ x ∈ xs, x.size ≤ maxLen) :
    Calls Try.prog 44 #[.agg #[v], .int .i64 p] w fun e w' => ∃ u, e = .returned (.agg #[u]) ∧ Own w.heap.size w' u (clrRes xs p) ∧ Below w.heap.size w w' := by
  obtain ⟨ao, cap, rfl, h1, h2, _⟩ := h.form
  have HX := hide hx
  have hR := hide h
  clear h hx
  go_enter Try.func44, Try.ntmps44
  go_wp2_with fail
  refine (sTreOk_any _ xs _ (((unhide hR).below ((Below.refl _ _).alloc (Nat.le_refl _) _)).below ((Below.refl _ _).alloc (Nat.le_refl _) _)) (unhide HX)).mono ?_
  rintro e w1 ⟨rfl, hb1⟩
  have A1 := hide (box_below ((Boxed.new w 25 (.slice ao xs.length cap)).alloc (.cells #[.slice none 0 0] 25)) hb1)
  have B1 := hide (box_below (Boxed.new (w.alloc (.cells #[.slice ao xs.length cap] 25)) 25 (.slice none 0 0)) hb1)
  rw [World.size_alloc] at B1
  have HB1 : Hid (Below w.heap.size w w1) := (((Below.refl _ _).alloc (Nat.le_refl _) _).alloc (by simp) _).trans (hb1.mono (by simp; omega))
  have hs1 := hb1.size
  rw [World.size_alloc, World.size_alloc] at hs1
  have HB2 := hide (below_box (unhide HB1) (b := w.heap.size + 1) (by omega) (.slice none 0 0))
  have l0 := (unhide A1).cell
  have l1 := (unhide B1).cell
  have l2 := (unhide B1).frozen
  have l3 := ((unhide B1).set (.slice none 0 0)).cell
  clear hb1
  cases hk : treOk xs with
  | false =>
    have HE : Hid (clrRes xs p = []) := clrRes_no (by rw [hk]; simp)
    clear hk
    go_wp2_with fail
    refine bodyPost_ret (v := .agg #[.slice none 0 0]) (by simp [results, Try.results44, go_sem, l3]) rfl ⟨_, rfl, by rw [HE.out]; exact World.ownsRow_nil _ _ _ _, unhide HB2⟩
  | true =>
    by_cases hp : 0 ≤ p ∧ p ≤ 7
    · obtain ⟨k, rfl⟩ : ∃ k : Nat, p = (k : Int) := ⟨p.toNat, by omega⟩
      have hk8 : k < 8 := by omega
      have HE := hide (clrRes_yes hk hk8)
      have HL : Hid (xs.length = 15) := (treOk_iff.1 hk).1
      clear hk hp
      go_wp2_with fail
      refine (l1In_yes _ _ _ _ (by omega) (by omega)).mono ?_
      rintro e wa ⟨rfl, rfl⟩
      go_wp2_with fail
      refine (l3Copy_any _ xs _ ((unhide hR).below (unhide HB1)) (by have := HL.out; omega)).mono ?_
      rintro e w2 ⟨u2, rfl, ho2, hb2⟩
      unfold Own at ho2
      rw [HL.out] at ho2
      obtain ⟨g, c, rfl, hg1, hg2, hg3, hg4⟩ := row15 ho2
      have O2 := hide ho2
      have B2 := hide (box_below (unhide B1) hb2)
      have HB3 := hide (HB1.out.trans (hb2.mono HB1.out.size))
      have hs2 := hb2.size
      clear ho2 hb2 A1 B1 HB2 l0 l1 l2 l3
      go_wp2_with fail
      refine (l3Clear_any wa.heap.size g c xs HL.out k hk8 _ (unhide O2)).mono ?_
      rintro e w3 ⟨rfl, ho3, hg⟩
      have B3 := hide (box_grown (unhide B2) (unhide O2) (by decide) hg)
      have HB4 : Hid (Below w.heap.size w w3) := (unhide HB3).grown hg HB3.out.size (fun z hz => by cases hz; omega)
      have O3 : Hid _ := row_box ho3 (unhide B3) (by decide) (.slice (some ⟨g, 0, none⟩) 15 c)
      have l1 := (unhide B3).cell
      have l2 := (unhide B3).frozen
      have l3 := ((unhide B3).set (.slice (some ⟨g, 0, none⟩) 15 c)).cell
      have HB5 := hide (below_box (unhide HB4) (b := w.heap.size + 1) (by omega) (.slice (some ⟨g, 0, none⟩) 15 c))
      clear ho3 hg B2 O2 HB3 HB4 B3
      go_wp2_with fail
      refine bodyPost_ret (v := .agg #[.slice (some ⟨g, 0, none⟩) 15 c]) (by simp [results, Try.results44, go_sem, l3]) rfl ⟨_, rfl, ?_, unhide HB5⟩
      rw [HE.out]
      unfold Own
      rw [clearOf_len, HL.out]
      exact row_lowB (unhide O3) (by omega)
    · have HE : Hid (clrRes xs p = []) := clrRes_no (fun q => hp q.2)
      have HP := hide hp
      clear hk hp
      go_wp2_with fail
      refine (l1In_no _ _ _ _ (by have := HP.out; omega)).mono ?_
      rintro e wa ⟨rfl, rfl⟩
      go_wp2_with fail
      refine bodyPost_ret (v := .agg #[.slice none 0 0]) (by simp [results, Try.results44, go_sem, l3]) rfl ⟨_, rfl, by rw [HE.out]; exact World.ownsRow_nil _ _ _ _, unhide HB2⟩
#print axioms sTreClear_any
end Go.Proofs.Yticmbajfdpchnaa
