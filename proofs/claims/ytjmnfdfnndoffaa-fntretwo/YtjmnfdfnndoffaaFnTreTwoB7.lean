/-
  The specification's TreClear.
-/
import Derived.Test.YtjmnfdfnndoffaaFnTreTwoB5
import Derived.Test.YtjmnfdfnndoffaaFnTreTwoB6
import Derived.Test.YtjmnfdfnndoffaaFnTreTwoB4
import Derived.RangeFuncRecord
import Derived.Test.YtjmnfdfnndoffaaFnTreTwoB1
import Derived.Deep.RegionWith
namespace Go.Proofs.Ytjmnfdfnndoffaa
open Go.RowKit

set_option maxRecDepth 100000 in
set_option maxHeartbeats 2000000 in
theorem l3Copy_any (v : Value) (xs : List ByteArray) (w : World) (h : SRow w v xs) (hl : xs.length ≤ 1048576) :
    Calls Try.prog 45 #[.agg #[v]] w fun e w' => ∃ u, e = .returned (.agg #[u]) ∧ Own w.heap.size w' u xs ∧ Below w.heap.size w w' := by
  obtain ⟨i0, hi, hz0, hz1, hz2⟩ := info_parts info_str2
  have hI := hide (And.intro hi (And.intro hz0 (And.intro hz1 hz2)))
  clear hi hz0 hz1 hz2
  have hR := hide h
  obtain ⟨ao, cap, rfl, _, _, _⟩ := h.form
  clear h
  have NW : Hid _ := (((((unhide hR).below ((Below.refl _ _).alloc (Nat.le_refl _) (.cells #[.slice ao xs.length cap] 25))).below ((Below.refl _ _).alloc (Nat.le_refl _) (.cells #[.slice none 0 0] 25))).below ((Below.refl _ _).alloc (Nat.le_refl _) (.cells #[] 9)))).news
  have hB0 : Hid (Below w.heap.size w (((w.alloc (.cells #[.slice ao xs.length cap] 25)).alloc (.cells #[.slice none 0 0] 25)).alloc (.cells #[] 9))) := (((Below.refl _ _).alloc (Nat.le_refl _) _).alloc (by simp) _).alloc (by simp; omega) _
  have b1 := ((Boxed.new (w.alloc (.cells #[.slice ao xs.length cap] 25)) 25 (.slice none 0 0))).alloc (.cells #[] 9)
  rw [World.size_alloc] at b1
  have B1 := hide b1
  have hO : Hid ((((w.alloc (.cells #[.slice ao xs.length cap] 25)).alloc (.cells #[.slice none 0 0] 25)).alloc (.cells #[] 9)).ownsRow w.heap.size 9 1 (.slice (some ⟨w.heap.size + 1 + 1, 0, none⟩) 0 0) 0 []) := by
    have q := World.ownsRow_lit (base := w.heap.size) (e := 9) (size := 1) ((w.alloc (.cells #[.slice ao xs.length cap] 25)).alloc (.cells #[.slice none 0 0] 25)) #[] 0 (by simp; omega) (by unfold maxLen; omega) rfl
    simp only [World.size_alloc] at q
    exact q
  clear b1
  go_enter Try.func45, Try.ntmps45
  go_wp2_with (at_builtin; refine wpList_append_row _ rfl _ _ 23 rfl w.heap.size 9 i0 (.string ⟨#[]⟩) 1 16 Try.underlying23 (unhide hI).1 (unhide hI).2.1 (unhide hI).2.2.1 (unhide hI).2.2.2 rfl (by decide) _ _ _ rfl (unhide hO) _ _ _ rfl (unhide NW) (texts_one _) (by unfold maxLen; omega) (by omega) (by simp; omega) ?_)
  intro v2 w2 ho2 hg2
  have ho2 : w2.ownsRow w.heap.size 9 1 v2 xs.length (xs.map Value.string) := by first | exact ho2 | simpa using ho2
  have hBg : Hid (Below w.heap.size w w2) := (unhide hB0).grown hg2 (by simp; omega) (fun z hz => by simp [Value.ownBlock] at hz; omega)
  have B2 := box_grown (unhide B1) (unhide hO) (by decide) hg2
  obtain ⟨o2, c2, hv2⟩ := row_form' ho2
  subst hv2
  have l1 := B2.cell
  have l2 := B2.frozen
  have l3 := (B2.set (.slice o2 xs.length c2)).cell
  have R2 := hide (row_box ho2 B2 (by decide) (.slice o2 xs.length c2))
  have HB2 := hide (below_box (unhide hBg) (b := w.heap.size + 1) (by omega) (.slice o2 xs.length c2))
  clear ho2 hg2 B2 hO B1 NW hB0 hBg
  go_wp2_with fail
  refine bodyPost_ret (v := .agg #[.slice o2 xs.length c2]) (by simp [results, Try.results45, go_sem, l3]) rfl ⟨_, rfl, unhide R2, unhide HB2⟩
#print axioms l3Copy_any

set_option maxRecDepth 100000 in
set_option maxHeartbeats 4000000 in
theorem l3Clear_any (B g c : Nat) (xs : List ByteArray) (hl : xs.length = 15) (k : Nat) (hk : k < 8) (w : World) (h : w.ownsRow B 9 1 (.slice (some ⟨g, 0, none⟩) 15 c) 15 (xs.map Value.string)) :
    Calls Try.prog 47 #[.agg #[.slice (some ⟨g, 0, none⟩) 15 c], .int .i64 (k : Int)] w fun e w' => e = .returned (.agg #[.slice (some ⟨g, 0, none⟩) 15 c]) ∧ w'.ownsRow B 9 1 (.slice (some ⟨g, 0, none⟩) 15 c) 15 ((clearOf xs k).map Value.string) ∧ w.grownBy w' (some g) := by
  obtain ⟨_, _, e0, hg1, hg2, hg3, hg4⟩ := row15 h
  simp only [Value.slice.injEq, Option.some.injEq, Addr.mk.injEq, true_and, and_true] at e0
  obtain ⟨rfl, rfl⟩ := e0
  have hLf : Hid (leafOf (k : Int) = ((7 + k : Nat) : Int)) := by show _ = _; unfold leafOf; rw [if_pos (by omega)]; omega
  have HUP : Hid (upOf ((7 + k : Nat) : Int) = ints (ups (7 + k))) := by show upOf _ = _; unfold upOf; rw [if_pos (by omega)]; rfl
  have hul := ups_len (7 + k) (by omega)
  have hult := ups_lt (7 + k) (by omega)
  have HEND : Hid (clearOf xs k = wipe xs ([7 + k] ++ (ups (7 + k)).take (ups (7 + k)).length)) := by show _ = _; rw [List.take_length]; rfl
  generalize hN : ups (7 + k) = N at *
  clear hN
  obtain ⟨lf, hlf⟩ : ∃ lf : Nat, lf = 7 + k := ⟨_, rfl⟩
  rw [← hlf] at hLf HUP HEND
  have hlf2 : lf < 15 := by omega
  have jl : (lf : Int) < 15 := by omega
  clear hlf
  have hrW := own_below' (own_below' h ((Below.refl _ _).alloc (Nat.le_refl _) (.cells #[.slice (some ⟨g, 0, none⟩) 15 c] 25))) ((Below.refl _ _).alloc (Nat.le_refl _) (.cells #[.slice none 0 0] 25))
  obtain ⟨s1, s2, _, _⟩ := row15_set hl hrW lf hlf2 ByteArray.empty
  obtain ⟨_, _, s3, s4⟩ := row15_set hl h lf hlf2 ByteArray.empty
  have hse : (w.setCell ⟨g, lf, none⟩ (.string ByteArray.empty)).heap.size = w.heap.size := by simp [World.setCell]
  have bA := (Boxed.new (w.setCell ⟨g, lf, none⟩ (.string ByteArray.empty)) 25 (.slice (some ⟨g, 0, none⟩) 15 c)).alloc (.cells #[.slice none 0 0] 25)
  have bR := Boxed.new ((w.setCell ⟨g, lf, none⟩ (.string ByteArray.empty)).alloc (.cells #[.slice (some ⟨g, 0, none⟩) 15 c] 25)) 25 (.slice none 0 0)
  rw [World.size_alloc, hse] at bR
  rw [hse] at bA
  have bA2 := hide bA
  have bR2 := hide bR
  have S3 : Hid _ := own_below' (own_below' s3 ((Below.refl _ _).alloc (Nat.le_refl _) (.cells #[.slice (some ⟨g, 0, none⟩) 15 c] 25))) ((Below.refl _ _).alloc (Nat.le_refl _) (.cells #[.slice none 0 0] 25))
  have hG2 : Hid (w.grownBy (((w.setCell ⟨g, lf, none⟩ (.string ByteArray.empty)).alloc (.cells #[.slice (some ⟨g, 0, none⟩) 15 c] 25)).alloc (.cells #[.slice none 0 0] 25)) (some g)) := (s4.trans (World.grownBy_alloc _ _ _)).trans (World.grownBy_alloc _ _ _)
  have HL := hide hl
  generalize xs.getD lf ByteArray.empty = old at s1
  clear h hrW bA bR s3 s4 hl
  go_enter Try.func47, Try.ntmps47
  go_wp2_with fail
  refine (sTreLeaf_any _ _).mono ?_
  rw [hLf.out]
  rintro e wz ⟨rfl, rfl⟩
  go_wp2_with fail
  refine (sTreUp_any _ _).mono ?_
  rw [HUP.out]
  rintro e w2 ⟨u2, rfl, ho2, hb2⟩
  have U2 := hide (IIn.of ho2)
  have hs2 := hb2.size
  have A2 := hide (box_below (unhide bA2) hb2)
  have R2 := hide (box_below (unhide bR2) hb2)
  have O2 := hide (own_below' (unhide S3) hb2)
  have G2 : Hid (w.grownBy w2 (some g)) := ⟨hb2.os.trans hG2.out.os, hb2.tape.trans hG2.out.tape, hb2.output.trans hG2.out.output, Nat.le_trans hG2.out.size hb2.size, fun j hj hr => (hb2.block j (Nat.lt_of_lt_of_le hj hG2.out.size)).trans (hG2.out.block j hj hr)⟩
  have hgs : (((w.setCell ⟨g, lf, none⟩ (.string ⟨#[]⟩)).alloc (.cells #[.slice (some ⟨g, 0, none⟩) 15 c] 25)).alloc (.cells #[.slice none 0 0] 25)).heap.size = w.heap.size + 2 := by simp [World.setCell]
  rw [hgs] at U2 hs2
  obtain ⟨uo, uc, hu⟩ := row_form' ho2
  subst hu
  rw [show (ints N).length = N.length by simp [ints]] at *
  clear ho2 hb2 bA2 bR2 S3 hG2 s1 s2 hgs
  go_wp2_with fail
  go_loopw [7] (fun i wr => ∃ j : Nat, j ≤ N.length ∧ i = .int .i64 (j : Int) ∧ Hid (wr.ownsRow B 9 1 (.slice (some ⟨g, 0, none⟩) 15 c) 15 ((wipe xs ([lf] ++ N.take j)).map Value.string)) ∧ Hid (IIn (w.heap.size + 2) w2.heap.size wr (.slice uo N.length uc) (ints N)) ∧ Hid (Boxed wr w.heap.size 25 (.slice (some ⟨g, 0, none⟩) 15 c)) ∧ Hid (Boxed wr (w.heap.size + 1) 25 (.slice none 0 0)) ∧ Hid (w.grownBy wr (some g))) (fun i _ => N.length - (intOf i).toNat)
  case atStart => exact ⟨0, by omega, rfl, O2, U2, A2, R2, G2⟩
  case round =>
    clear O2 U2 A2 R2 G2
    obtain ⟨j, hj, rfl, hO, hU, hA, hR, hG⟩ := hrel
    by_cases hlt : j < N.length
    · have hlt2 : (j : Int) < (N.length : Int) := by omega
      have i3 : IntKind.i64.wrap ((j : Int) + 1) = (j : Int) + 1 := by simp [IntKind.wrap, IntKind.bits, IntKind.signed]; omega
      obtain ⟨q0, q1, q2, _, _, q5⟩ := (unhide hU).irow.form
      rw [show (ints N).length = N.length by simp [ints]] at q2 q5
      simp only [Value.slice.injEq] at q2
      obtain ⟨rfl, _, rfl⟩ := q2
      obtain ⟨ad, rfl, hck⟩ := q5 j hlt
      have hnj : (ints N).getD j 0 = ((N.getD j 0 : Nat) : Int) := by
        unfold ints
        rw [List.getD_eq_getElem?_getD, List.getElem?_map, List.getD_eq_getElem?_getD, List.getElem?_eq_getElem hlt]
        rfl
      rw [hnj] at hck
      have hnl : N.getD j 0 < 7 := hult _ (by rw [List.getD_eq_getElem?_getD, List.getElem?_eq_getElem hlt]; exact List.getElem_mem hlt)
      have HTK : Hid (wipe xs ([lf] ++ N.take (j + 1)) = (wipe xs ([lf] ++ N.take j)).set (N.getD j 0) ByteArray.empty) := by
        show _ = _
        rw [List.take_succ_eq_append_getElem hlt, ← List.append_assoc, wipe_snoc, List.getD_eq_getElem?_getD, List.getElem?_eq_getElem hlt]
        rfl
      generalize N.getD j 0 = q at hck hnl HTK
      have hq2 : (q : Int) < 15 := by omega
      obtain ⟨s1, s2, s3, s4⟩ := row15_set (w := wr.drew) (by rw [wipe_len]; exact HL.out) (unhide hO) q (by omega) ByteArray.empty
      have S3 : Hid _ := s3
      have A3 : Hid _ := box_grown (w := wr.drew) (unhide hA) (unhide hO) (by decide) s4
      have R3 : Hid _ := box_grown (w := wr.drew) (unhide hR) (unhide hO) (by decide) s4
      have U3 : Hid (IIn (w.heap.size + 2) w2.heap.size (wr.drew.setCell ⟨g, q, none⟩ (.string ByteArray.empty)) (.slice (some ad) N.length uc) (ints N)) := RowIn.grown (w := wr.drew) (unhide hU) s4 (fun z hz => .inl (by cases hz; omega))
      have G3 : Hid (w.grownBy (wr.drew.setCell ⟨g, q, none⟩ (.string ByteArray.empty)) (some g)) := (grown_drew (unhide hG)).trans s4
      generalize (wipe xs ([lf] ++ N.take j)).getD q ByteArray.empty = old2 at s1
      clear s3 s4 q5
      go_wp2_with fail
      refine wp_region_later (by kernel_rfl) ?_
      refine later_take (i := 0) (d := 22) (v := ?_) (by kernel_rfl) (by kernel_rfl) (by kernel_rfl) (by kernel_rfl) (fun _ _ _ h => h) (fun oi hoi => ?_) ?_
      rotate_left
      · simp at hoi
        subst hoi
        refine ⟨by rfl, fun w' hw' => ?_⟩
        go_simp
        all_goals rfl
      try simp only [Act.put, List.setIfInBounds_toArray, List.set_cons_zero, List.set_cons_succ]
      refine later_take (i := 1) (d := 23) (v := ?_) (by kernel_rfl) (by kernel_rfl) (by kernel_rfl) (by kernel_rfl) (fun _ _ _ h => h) (fun oi hoi => ?_) ?_
      rotate_left
      · simp at hoi
        subst hoi
        refine ⟨by rfl, fun w' hw' => ?_⟩
        have hx := (box_below (w := wr.drew) (unhide hA) hw').cell
        go_simp
        all_goals rfl
      try simp only [Act.put, List.setIfInBounds_toArray, List.set_cons_zero, List.set_cons_succ]
      refine later_take (i := 2) (d := 24) (v := ?_) (by kernel_rfl) (by kernel_rfl) (by kernel_rfl) (by kernel_rfl) (fun _ _ _ h => h) (fun oi hoi => ?_) ?_
      rotate_left
      · simp at hoi
        subst hoi
        refine ⟨by rfl, fun w' hw' => ?_⟩
        go_simp
        all_goals rfl
      try simp only [Act.put, List.setIfInBounds_toArray, List.set_cons_zero, List.set_cons_succ]
      refine later_take (i := 3) (d := 25) (v := ?_) (by kernel_rfl) (by kernel_rfl) (by kernel_rfl) (by kernel_rfl) (fun _ _ _ h => h) (fun oi hoi => ?_) ?_
      rotate_left
      · simp at hoi
        subst hoi
        refine ⟨by rfl, fun w' hw' => ?_⟩
        go_simp
        all_goals rfl
      try simp only [Act.put, List.setIfInBounds_toArray, List.set_cons_zero, List.set_cons_succ]
      refine later_take (i := 4) (d := 26) (v := ?_) (by kernel_rfl) (by kernel_rfl) (by kernel_rfl) (by kernel_rfl) (fun _ _ _ h => h) (fun oi hoi => ?_) ?_
      rotate_left
      · simp at hoi
        subst hoi
        refine ⟨by rfl, fun w' hw' => ?_⟩
        go_simp
        all_goals rfl
      try simp only [Act.put, List.setIfInBounds_toArray, List.set_cons_zero, List.set_cons_succ]
      refine later_take (i := 5) (d := 27) (v := ?_) (by kernel_rfl) (by kernel_rfl) (by kernel_rfl) (by kernel_rfl) (fun _ _ _ h => h) (fun oi hoi => ?_) ?_
      rotate_left
      · simp at hoi
        subst hoi
        refine ⟨by rfl, fun w' hw' => ?_⟩
        have hx := (Below.cell hw' (cell_lt (w := wr.drew) hck)).trans hck
        go_simp
        all_goals rfl
      try simp only [Act.put, List.setIfInBounds_toArray, List.set_cons_zero, List.set_cons_succ]
      refine later_take (i := 6) (d := 28) (v := ?_) (by kernel_rfl) (by kernel_rfl) (by kernel_rfl) (by kernel_rfl) (fun _ _ _ h => h) (fun oi hoi => ?_) ?_
      rotate_left
      · simp at hoi
        subst hoi
        refine ⟨by rfl, fun w' hw' => ?_⟩
        go_simp
        all_goals rfl
      try simp only [Act.put, List.setIfInBounds_toArray, List.set_cons_zero, List.set_cons_succ]
      refine ord_last (i := 7) (by kernel_rfl) (by kernel_rfl) (by kernel_rfl) (fun oi K hoi hK => ?_)
      simp at hoi
      subst hoi
      refine ⟨by rfl, ?_⟩
      go_simp
      refine hK.out _ _ ?_
      clear hK
      try simp only [Act.put, List.setIfInBounds_toArray, List.set_cons_zero, List.set_cons_succ]
      go_wp2_with fail
      go_roundw
      case rel => exact ⟨j + 1, by omega, by simp, by rw [HTK.out]; exact unhide S3, U3, A3, R3, G3⟩
      case measure => simp [intOf]; omega
    · have hlt2 : decide ((j : Int) < (N.length : Int)) = false := by simp; omega
      obtain rfl : j = N.length := by omega
      have l1 := (unhide hA).cell
      have l2 := (unhide hR).cell
      have l3 := (unhide hR).frozen
      have l4 := ((unhide hR).set (.slice (some ⟨g, 0, none⟩) 15 c)).cell
      have O4 : Hid _ := row_box (unhide hO) (unhide hR) (by decide) (.slice (some ⟨g, 0, none⟩) 15 c)
      have G4 : Hid (w.grownBy (wr.setCell ⟨w.heap.size + 1, 0, none⟩ (.slice (some ⟨g, 0, none⟩) 15 c)) (some g)) := by
        have q := unhide hG
        refine ⟨q.os, q.tape, q.output, by simpa [World.setCell] using q.size, fun z hz hr => ?_⟩
        rw [Below.heap_setCell wr ⟨w.heap.size + 1, 0, none⟩ _ z (by show z ≠ w.heap.size + 1; omega)]
        exact q.block z hz hr
      go_wp2_with fail
      refine bodyPost_ret (v := .agg #[.slice (some ⟨g, 0, none⟩) 15 c]) (by simp [results, Try.results47, go_sem, l4]) rfl ⟨rfl, ?_, unhide G4⟩
      rw [HEND.out]
      exact unhide O4
#print axioms l3Clear_any

set_option maxRecDepth 100000 in
set_option maxHeartbeats 2000000 in
theorem sTreClear_any (v : Value) (xs : List ByteArray) (p : Int) (w : World) (h : SRow w v xs) (hx : ∀ x ∈ xs, x.size ≤ maxLen) :
    Calls Try.prog 23 #[.agg #[v], .int .i64 p] w fun e w' => ∃ u, e = .returned (.agg #[u]) ∧ Own w.heap.size w' u (clrRes xs p) ∧ Below w.heap.size w w' := by
  obtain ⟨ao, cap, rfl, h1, h2, _⟩ := h.form
  have HX := hide hx
  have hR := hide h
  clear h hx
  go_enter Try.func23, Try.ntmps23
  go_wp2_with fail
  refine (sTreOk_any _ xs _ (((unhide hR).below ((Below.refl _ _).alloc (Nat.le_refl _) _)).below ((Below.refl _ _).alloc (Nat.le_refl _) _)) (unhide HX)).mono ?_
  rintro e w1 ⟨rfl, hb1⟩
  have A1 := hide (box_below ((Boxed.new w 25 (.slice ao xs.length cap)).alloc (.cells #[.slice none 0 0] 25)) hb1)
  have B1 := hide (box_below (Boxed.new (w.alloc (.cells #[.slice ao xs.length cap] 25)) 25 (.slice none 0 0)) hb1)
  rw [World.size_alloc] at B1
  have HB1 : Hid (Below w.heap.size w w1) := (((Below.refl _ _).alloc (Nat.le_refl _) _).alloc (by simp) _).trans (hb1.mono (by simp; omega))
  have hs1 := hb1.size
  rw [World.size_alloc, World.size_alloc] at hs1
  have HB2 := hide (below_box (unhide HB1) (b := w.heap.size + 1) (by omega) (.slice none 0 0))
  have l0 := (unhide A1).cell
  have l1 := (unhide B1).cell
  have l2 := (unhide B1).frozen
  have l3 := ((unhide B1).set (.slice none 0 0)).cell
  clear hb1
  cases hk : treOk xs with
  | false =>
    have HE : Hid (clrRes xs p = []) := clrRes_no (by rw [hk]; simp)
    clear hk
    go_wp2_with fail
    refine bodyPost_ret (v := .agg #[.slice none 0 0]) (by simp [results, Try.results23, go_sem, l3]) rfl ⟨_, rfl, by rw [HE.out]; exact World.ownsRow_nil _ _ _ _, unhide HB2⟩
  | true =>
    by_cases hp : 0 ≤ p ∧ p ≤ 7
    · obtain ⟨k, rfl⟩ : ∃ k : Nat, p = (k : Int) := ⟨p.toNat, by omega⟩
      have hk8 : k < 8 := by omega
      have HE := hide (clrRes_yes hk hk8)
      have HL : Hid (xs.length = 15) := (treOk_iff.1 hk).1
      clear hk hp
      go_wp2_with fail
      refine (l1In_yes _ _ _ _ (by omega) (by omega)).mono ?_
      rintro e wa ⟨rfl, rfl⟩
      go_wp2_with fail
      refine (l3Copy_any _ xs _ ((unhide hR).below (unhide HB1)) (by have := HL.out; omega)).mono ?_
      rintro e w2 ⟨u2, rfl, ho2, hb2⟩
      unfold Own at ho2
      rw [HL.out] at ho2
      obtain ⟨g, c, rfl, hg1, hg2, hg3, hg4⟩ := row15 ho2
      have O2 := hide ho2
      have B2 := hide (box_below (unhide B1) hb2)
      have HB3 := hide (HB1.out.trans (hb2.mono HB1.out.size))
      have hs2 := hb2.size
      clear ho2 hb2 A1 B1 HB2 l0 l1 l2 l3
      go_wp2_with fail
      refine (l3Clear_any wa.heap.size g c xs HL.out k hk8 _ (unhide O2)).mono ?_
      rintro e w3 ⟨rfl, ho3, hg⟩
      have B3 := hide (box_grown (unhide B2) (unhide O2) (by decide) hg)
      have HB4 : Hid (Below w.heap.size w w3) := (unhide HB3).grown hg HB3.out.size (fun z hz => by cases hz; omega)
      have O3 : Hid _ := row_box ho3 (unhide B3) (by decide) (.slice (some ⟨g, 0, none⟩) 15 c)
      have l1 := (unhide B3).cell
      have l2 := (unhide B3).frozen
      have l3 := ((unhide B3).set (.slice (some ⟨g, 0, none⟩) 15 c)).cell
      have HB5 := hide (below_box (unhide HB4) (b := w.heap.size + 1) (by omega) (.slice (some ⟨g, 0, none⟩) 15 c))
      clear ho3 hg B2 O2 HB3 HB4 B3
      go_wp2_with fail
      refine bodyPost_ret (v := .agg #[.slice (some ⟨g, 0, none⟩) 15 c]) (by simp [results, Try.results23, go_sem, l3]) rfl ⟨_, rfl, ?_, unhide HB5⟩
      rw [HE.out]
      unfold Own
      rw [clearOf_len, HL.out]
      exact row_lowB (unhide O3) (by omega)
    · have HE : Hid (clrRes xs p = []) := clrRes_no (fun q => hp q.2)
      have HP := hide hp
      clear hk hp
      go_wp2_with fail
      refine (l1In_no _ _ _ _ (by have := HP.out; omega)).mono ?_
      rintro e wa ⟨rfl, rfl⟩
      go_wp2_with fail
      refine bodyPost_ret (v := .agg #[.slice none 0 0]) (by simp [results, Try.results23, go_sem, l3]) rfl ⟨_, rfl, by rw [HE.out]; exact World.ownsRow_nil _ _ _ _, unhide HB2⟩
#print axioms sTreClear_any
end Go.Proofs.Ytjmnfdfnndoffaa
/-
  The specification's TreSet.
-/
namespace Go.Proofs.Ytjmnfdfnndoffaa
open Go.RowKit

set_option maxRecDepth 100000 in
set_option maxHeartbeats 4000000 in
theorem l3Set_any (B g c : Nat) (xs : List ByteArray) (hl : xs.length = 15) (k : Nat) (hk : k < 8) (s : ByteArray) (hss : s.size ≤ 300) (w : World) (h : w.ownsRow B 9 1 (.slice (some ⟨g, 0, none⟩) 15 c) 15 (xs.map Value.string)) :
    Calls Try.prog 44 #[.agg #[.slice (some ⟨g, 0, none⟩) 15 c], .int .i64 (k : Int), .string s] w fun e w' => e = .returned (.agg #[.slice (some ⟨g, 0, none⟩) 15 c]) ∧ w'.ownsRow B 9 1 (.slice (some ⟨g, 0, none⟩) 15 c) 15 ((setKeys xs k s).map Value.string) ∧ w.grownBy w' (some g) := by
  obtain ⟨_, _, e0, hg1, hg2, hg3, hg4⟩ := row15 h
  simp only [Value.slice.injEq, Option.some.injEq, Addr.mk.injEq, true_and, and_true] at e0
  obtain ⟨rfl, rfl⟩ := e0
  have hLf : Hid (leafOf (k : Int) = ((7 + k : Nat) : Int)) := by show _ = _; unfold leafOf; rw [if_pos (by omega)]; omega
  have HUP : Hid (upOf ((7 + k : Nat) : Int) = ints (ups (7 + k))) := by show upOf _ = _; unfold upOf; rw [if_pos (by omega)]; rfl
  have hul := ups_len (7 + k) (by omega)
  have hult := ups_lt (7 + k) (by omega)
  have HEND : Hid (setKeys xs k s = fill xs s ([7 + k] ++ (ups (7 + k)).take (ups (7 + k)).length)) := by show _ = _; rw [List.take_length]; rfl
  generalize hN : ups (7 + k) = N at *
  clear hN
  obtain ⟨lf, hlf⟩ : ∃ lf : Nat, lf = 7 + k := ⟨_, rfl⟩
  rw [← hlf] at hLf HUP HEND
  have hlf2 : lf < 15 := by omega
  have jl : (lf : Int) < 15 := by omega
  clear hlf
  have hrW : Hid _ := own_below' (own_below' h ((Below.refl _ _).alloc (Nat.le_refl _) (.cells #[.slice (some ⟨g, 0, none⟩) 15 c] 25))) ((Below.refl _ _).alloc (Nat.le_refl _) (.cells #[.slice none 0 0] 25))
  have bA : Hid _ := (Boxed.new w 25 (.slice (some ⟨g, 0, none⟩) 15 c)).alloc (.cells #[.slice none 0 0] 25)
  have bR := Boxed.new (w.alloc (.cells #[.slice (some ⟨g, 0, none⟩) 15 c] 25)) 25 (.slice none 0 0)
  rw [World.size_alloc] at bR
  have bR1 := hide bR
  have hgW : Hid (w.grownBy ((w.alloc (.cells #[.slice (some ⟨g, 0, none⟩) 15 c] 25)).alloc (.cells #[.slice none 0 0] 25)) (some g)) := (World.grownBy_alloc w _ _).trans (World.grownBy_alloc _ _ _)
  have hWs : ((w.alloc (.cells #[.slice (some ⟨g, 0, none⟩) 15 c] 25)).alloc (.cells #[.slice none 0 0] 25)).heap.size = w.heap.size + 2 := by simp
  have HL := hide hl
  clear h bR hl
  go_enter Try.func44, Try.ntmps44
  go_wp2_with fail
  refine (sTreLeaf_any _ _).mono ?_
  rw [hLf.out]
  rintro e wz ⟨rfl, rfl⟩
  go_wp2_with fail
  refine wp_region_later (by kernel_rfl) ?_
  refine later_take (i := 0) (d := 12) (v := ?_) (by kernel_rfl) (by kernel_rfl) (by kernel_rfl) (by kernel_rfl) (fun _ _ _ h => h) (fun oi hoi => ?_) ?_
  rotate_left
  · simp at hoi
    subst hoi
    refine ⟨by rfl, fun w' hw' => ?_⟩
    go_simp
    all_goals rfl
  try simp only [Act.put, List.setIfInBounds_toArray, List.set_cons_zero, List.set_cons_succ]
  refine later_take (i := 1) (d := 13) (v := ?_) (by kernel_rfl) (by kernel_rfl) (by kernel_rfl) (by kernel_rfl) (fun _ _ _ h => h) (fun oi hoi => ?_) ?_
  rotate_left
  · simp at hoi
    subst hoi
    refine ⟨by rfl, fun w' hw' => ?_⟩
    have hx := (box_below (w := ((w.alloc (.cells #[.slice (some ⟨g, 0, none⟩) 15 c] 25)).alloc (.cells #[.slice none 0 0] 25)).drew) (unhide bA) hw').cell
    go_simp
    all_goals rfl
  try simp only [Act.put, List.setIfInBounds_toArray, List.set_cons_zero, List.set_cons_succ]
  refine later_take (i := 2) (d := 14) (v := ?_) (by kernel_rfl) (by kernel_rfl) (by kernel_rfl) (by kernel_rfl) (fun _ _ _ h => h) (fun oi hoi => ?_) ?_
  rotate_left
  · simp at hoi
    subst hoi
    refine ⟨by rfl, fun w' hw' => ?_⟩
    go_simp
    all_goals rfl
  try simp only [Act.put, List.setIfInBounds_toArray, List.set_cons_zero, List.set_cons_succ]
  refine later_take (i := 3) (d := 15) (v := ?_) (by kernel_rfl) (by kernel_rfl) (by kernel_rfl) (by kernel_rfl) (fun _ _ _ h => h) (fun oi hoi => ?_) ?_
  rotate_left
  · simp at hoi
    subst hoi
    refine ⟨by rfl, fun w' hw' => ?_⟩
    go_simp
    all_goals rfl
  try simp only [Act.put, List.setIfInBounds_toArray, List.set_cons_zero, List.set_cons_succ]
  refine later_one (i := 4) (by kernel_rfl) (fun oi K hoi hK => ?_)
  simp at hoi
  subst hoi
  refine ⟨by rfl, ?_⟩
  go_simp
  refine (sMakKey_any s _ (le_maxLen (by omega))).mono ?_
  rintro e wk ⟨rfl, hbk⟩
  go_simp
  refine hK.out _ _ hbk ?_
  clear hK
  have o1 := own_below' (w := ((w.alloc (.cells #[.slice (some ⟨g, 0, none⟩) 15 c] 25)).alloc (.cells #[.slice none 0 0] 25)).drew) (unhide hrW) hbk
  obtain ⟨s1, s2, s3, s4⟩ := row15_set HL.out o1 lf hlf2 (mkKey s)
  have A1 := hide (box_grown (box_below (w := ((w.alloc (.cells #[.slice (some ⟨g, 0, none⟩) 15 c] 25)).alloc (.cells #[.slice none 0 0] 25)).drew) (unhide bA) hbk) o1 (by decide) s4)
  have R1 := hide (box_grown (box_below (w := ((w.alloc (.cells #[.slice (some ⟨g, 0, none⟩) 15 c] 25)).alloc (.cells #[.slice none 0 0] 25)).drew) (unhide bR1) hbk) o1 (by decide) s4)
  have S3 := hide s3
  have hks : w.heap.size + 2 ≤ wk.heap.size := by have := hbk.size; simp at this; omega
  have G1 := hide ((grown_below0 (grown_drew (unhide hgW)) hbk).trans s4)
  generalize xs.getD lf ByteArray.empty = old at s1
  clear o1 s3 s4 hbk
  try simp only [Act.put, List.setIfInBounds_toArray, List.set_cons_zero, List.set_cons_succ]
  refine later_take (i := 5) (d := 17) (v := ?_) (by kernel_rfl) (by kernel_rfl) (by kernel_rfl) (by kernel_rfl) (fun _ _ _ h => h) (fun oi hoi => ?_) ?_
  rotate_left
  · simp at hoi
    subst hoi
    refine ⟨by rfl, fun w' hw' => ?_⟩
    go_simp
    all_goals rfl
  try simp only [Act.put, List.setIfInBounds_toArray, List.set_cons_zero, List.set_cons_succ]
  refine ord_last (i := 6) (by kernel_rfl) (by kernel_rfl) (by kernel_rfl) (fun oi K hoi hK => ?_)
  simp at hoi
  subst hoi
  refine ⟨by rfl, ?_⟩
  go_simp
  refine hK.out _ _ ?_
  clear hK
  try simp only [Act.put, List.setIfInBounds_toArray, List.set_cons_zero, List.set_cons_succ]
  go_wp2_with fail
  refine (sTreUp_any _ _).mono ?_
  rw [HUP.out]
  rintro e w2 ⟨u2, rfl, ho2, hb2⟩
  have U2 := hide (IIn.of ho2)
  have hs2 := hb2.size
  have A2 := hide (box_below (unhide A1) hb2)
  have R2 := hide (box_below (unhide R1) hb2)
  have O2 : Hid (w2.ownsRow B 9 1 (.slice (some ⟨g, 0, none⟩) 15 c) 15 ((fill xs s ([lf] ++ N.take 0)).map Value.string)) := own_below' (unhide S3) hb2
  have G2 : Hid (w.grownBy w2 (some g)) := grown_below0 (unhide G1) hb2
  have hgs : (wk.setCell ⟨g, lf, none⟩ (.string (mkKey s))).heap.size = wk.heap.size := by simp [World.setCell]
  rw [hgs] at U2 hs2
  obtain ⟨uo, uc, hu⟩ := row_form' ho2
  subst hu
  rw [show (ints N).length = N.length by simp [ints]] at *
  clear ho2 hb2 A1 R1 S3 G1 hgs
  go_wp2_with fail
  go_loopw [2, 9] (fun sv i wr => ∃ j : Nat, j ≤ N.length ∧ i = .int .i64 (j : Int) ∧ sv = .string (nextN s j) ∧ Hid (wr.ownsRow B 9 1 (.slice (some ⟨g, 0, none⟩) 15 c) 15 ((fill xs s ([lf] ++ N.take j)).map Value.string)) ∧ Hid (IIn wk.heap.size w2.heap.size wr (.slice uo N.length uc) (ints N)) ∧ Hid (Boxed wr w.heap.size 25 (.slice (some ⟨g, 0, none⟩) 15 c)) ∧ Hid (Boxed wr (w.heap.size + 1) 25 (.slice none 0 0)) ∧ Hid (w.grownBy wr (some g))) (fun _ i _ => N.length - (intOf i).toNat)
  case atStart => exact ⟨0, by omega, rfl, rfl, O2, U2, A2, R2, G2⟩
  case round =>
    clear O2 U2 A2 R2 G2
    obtain ⟨j, hj, rfl, rfl, hO, hU, hA, hR, hG⟩ := hrel
    by_cases hlt : j < N.length
    · have hlt2 : (j : Int) < (N.length : Int) := by omega
      have i3 : IntKind.i64.wrap ((j : Int) + 1) = (j : Int) + 1 := by simp [IntKind.wrap, IntKind.bits, IntKind.signed]; omega
      have hns := nextN_size s hss j
      have HNX : Hid (nextN s (j + 1) = mkNext (nextN s j)) := rfl
      have hns1 := nextN_size s hss (j + 1)
      generalize hsc : nextN s j = sc at *
      go_wp2_with fail
      refine (sMakNext_any sc _ (le_maxLen (by omega))).mono ?_
      rw [← HNX.out]
      rintro e wn ⟨rfl, hbn⟩
      have hOn := hide (own_below' (unhide hO) hbn)
      have hUn := hide ((unhide hU).below hbn)
      have hAn := hide (box_below (unhide hA) hbn)
      have hRn := hide (box_below (unhide hR) hbn)
      have hGn := hide (grown_below0 (unhide hG) hbn)
      clear hbn hO hU hA hR hG
      obtain ⟨q0, q1, q2, _, _, q5⟩ := (unhide hUn).irow.form
      rw [show (ints N).length = N.length by simp [ints]] at q2 q5
      simp only [Value.slice.injEq] at q2
      obtain ⟨rfl, _, rfl⟩ := q2
      obtain ⟨ad, rfl, hck⟩ := q5 j hlt
      have hnj : (ints N).getD j 0 = ((N.getD j 0 : Nat) : Int) := by
        unfold ints
        rw [List.getD_eq_getElem?_getD, List.getElem?_map, List.getD_eq_getElem?_getD, List.getElem?_eq_getElem hlt]
        rfl
      rw [hnj] at hck
      have hnl : N.getD j 0 < 7 := hult _ (by rw [List.getD_eq_getElem?_getD, List.getElem?_eq_getElem hlt]; exact List.getElem_mem hlt)
      have HTK : Hid (fill xs s ([lf] ++ N.take (j + 1)) = (fill xs s ([lf] ++ N.take j)).set (N.getD j 0) (mkKey (nextN s (j + 1)))) := by
        show _ = _
        rw [List.take_succ_eq_append_getElem hlt, ← List.append_assoc, fill_snoc, List.getD_eq_getElem?_getD, List.getElem?_eq_getElem hlt]
        simp
        congr 2
        rw [Nat.min_eq_left (by omega)]
      generalize N.getD j 0 = q at hck hnl HTK
      have hq2 : (q : Int) < 15 := by omega
      generalize hsn : nextN s (j + 1) = sn at *
      have HSN := hide hsn
      clear q5 hsc HNX hsn
      go_wp2_with fail
      refine wp_region_later (by kernel_rfl) ?_
      refine later_take (i := 0) (d := 28) (v := ?_) (by kernel_rfl) (by kernel_rfl) (by kernel_rfl) (by kernel_rfl) (fun _ _ _ h => h) (fun oi hoi => ?_) ?_
      rotate_left
      · simp at hoi
        subst hoi
        refine ⟨by rfl, fun w' hw' => ?_⟩
        go_simp
        all_goals rfl
      try simp only [Act.put, List.setIfInBounds_toArray, List.set_cons_zero, List.set_cons_succ]
      refine later_take (i := 1) (d := 29) (v := ?_) (by kernel_rfl) (by kernel_rfl) (by kernel_rfl) (by kernel_rfl) (fun _ _ _ h => h) (fun oi hoi => ?_) ?_
      rotate_left
      · simp at hoi
        subst hoi
        refine ⟨by rfl, fun w' hw' => ?_⟩
        have hx := (box_below (w := wn.drew) (unhide hAn) hw').cell
        go_simp
        all_goals rfl
      try simp only [Act.put, List.setIfInBounds_toArray, List.set_cons_zero, List.set_cons_succ]
      refine later_take (i := 2) (d := 30) (v := ?_) (by kernel_rfl) (by kernel_rfl) (by kernel_rfl) (by kernel_rfl) (fun _ _ _ h => h) (fun oi hoi => ?_) ?_
      rotate_left
      · simp at hoi
        subst hoi
        refine ⟨by rfl, fun w' hw' => ?_⟩
        go_simp
        all_goals rfl
      try simp only [Act.put, List.setIfInBounds_toArray, List.set_cons_zero, List.set_cons_succ]
      refine later_take (i := 3) (d := 31) (v := ?_) (by kernel_rfl) (by kernel_rfl) (by kernel_rfl) (by kernel_rfl) (fun _ _ _ h => h) (fun oi hoi => ?_) ?_
      rotate_left
      · simp at hoi
        subst hoi
        refine ⟨by rfl, fun w' hw' => ?_⟩
        go_simp
        all_goals rfl
      try simp only [Act.put, List.setIfInBounds_toArray, List.set_cons_zero, List.set_cons_succ]
      refine later_take (i := 4) (d := 32) (v := ?_) (by kernel_rfl) (by kernel_rfl) (by kernel_rfl) (by kernel_rfl) (fun _ _ _ h => h) (fun oi hoi => ?_) ?_
      rotate_left
      · simp at hoi
        subst hoi
        refine ⟨by rfl, fun w' hw' => ?_⟩
        go_simp
        all_goals rfl
      try simp only [Act.put, List.setIfInBounds_toArray, List.set_cons_zero, List.set_cons_succ]
      refine later_take (i := 5) (d := 33) (v := ?_) (by kernel_rfl) (by kernel_rfl) (by kernel_rfl) (by kernel_rfl) (fun _ _ _ h => h) (fun oi hoi => ?_) ?_
      rotate_left
      · simp at hoi
        subst hoi
        refine ⟨by rfl, fun w' hw' => ?_⟩
        have hx := (Below.cell hw' (cell_lt (w := wn.drew) hck)).trans hck
        go_simp
        all_goals rfl
      try simp only [Act.put, List.setIfInBounds_toArray, List.set_cons_zero, List.set_cons_succ]
      refine later_take (i := 6) (d := 34) (v := ?_) (by kernel_rfl) (by kernel_rfl) (by kernel_rfl) (by kernel_rfl) (fun _ _ _ h => h) (fun oi hoi => ?_) ?_
      rotate_left
      · simp at hoi
        subst hoi
        refine ⟨by rfl, fun w' hw' => ?_⟩
        go_simp
        all_goals rfl
      try simp only [Act.put, List.setIfInBounds_toArray, List.set_cons_zero, List.set_cons_succ]
      refine later_one (i := 7) (by kernel_rfl) (fun oi K hoi hK => ?_)
      simp at hoi
      subst hoi
      refine ⟨by rfl, ?_⟩
      go_simp
      refine (sMakKey_any sn _ (le_maxLen (by omega))).mono ?_
      rintro e wm ⟨rfl, hbm⟩
      go_simp
      refine hK.out _ _ hbm ?_
      clear hK
      have o1 := own_below' (w := wn.drew) (unhide hOn) hbm
      obtain ⟨s1, s2, s3, s4⟩ := row15_set (by rw [fill_len]; exact HL.out) o1 q (by omega) (mkKey sn)
      have S3 := hide s3
      have A3 := hide (box_grown (box_below (w := wn.drew) (unhide hAn) hbm) o1 (by decide) s4)
      have R3 := hide (box_grown (box_below (w := wn.drew) (unhide hRn) hbm) o1 (by decide) s4)
      have U3 : Hid (IIn wk.heap.size w2.heap.size (wm.setCell ⟨g, q, none⟩ (.string (mkKey sn))) (.slice (some ad) N.length uc) (ints N)) := RowIn.grown (RowIn.below (w := wn.drew) (unhide hUn) hbm) s4 (fun z hz => .inl (by cases hz; omega))
      have G3 := hide ((grown_below0 (grown_drew (unhide hGn)) hbm).trans s4)
      generalize (fill xs s ([lf] ++ N.take j)).getD q ByteArray.empty = old2 at s1
      clear o1 s3 s4 hbm
      try simp only [Act.put, List.setIfInBounds_toArray, List.set_cons_zero, List.set_cons_succ]
      refine later_take (i := 8) (d := 36) (v := ?_) (by kernel_rfl) (by kernel_rfl) (by kernel_rfl) (by kernel_rfl) (fun _ _ _ h => h) (fun oi hoi => ?_) ?_
      rotate_left
      · simp at hoi
        subst hoi
        refine ⟨by rfl, fun w' hw' => ?_⟩
        go_simp
        all_goals rfl
      try simp only [Act.put, List.setIfInBounds_toArray, List.set_cons_zero, List.set_cons_succ]
      refine ord_last (i := 9) (by kernel_rfl) (by kernel_rfl) (by kernel_rfl) (fun oi K hoi hK => ?_)
      simp at hoi
      subst hoi
      refine ⟨by rfl, ?_⟩
      go_simp
      refine hK.out _ _ ?_
      clear hK
      try simp only [Act.put, List.setIfInBounds_toArray, List.set_cons_zero, List.set_cons_succ]
      go_wp2_with fail
      go_roundw
      case rel => exact ⟨j + 1, by omega, by simp, by rw [HSN.out], by rw [HTK.out]; exact unhide S3, U3, A3, R3, G3⟩
      case measure => simp [intOf]; omega
    · have hlt2 : decide ((j : Int) < (N.length : Int)) = false := by simp; omega
      obtain rfl : j = N.length := by omega
      have l1 := (unhide hA).cell
      have l2 := (unhide hR).cell
      have l3 := (unhide hR).frozen
      have l4 := ((unhide hR).set (.slice (some ⟨g, 0, none⟩) 15 c)).cell
      have O4 : Hid _ := row_box (unhide hO) (unhide hR) (by decide) (.slice (some ⟨g, 0, none⟩) 15 c)
      have G4 : Hid (w.grownBy (wr.setCell ⟨w.heap.size + 1, 0, none⟩ (.slice (some ⟨g, 0, none⟩) 15 c)) (some g)) := by
        have q := unhide hG
        refine ⟨q.os, q.tape, q.output, by simpa [World.setCell] using q.size, fun z hz hr => ?_⟩
        rw [Below.heap_setCell wr ⟨w.heap.size + 1, 0, none⟩ _ z (by show z ≠ w.heap.size + 1; omega)]
        exact q.block z hz hr
      go_wp2_with fail
      refine bodyPost_ret (v := .agg #[.slice (some ⟨g, 0, none⟩) 15 c]) (by simp [results, Try.results44, go_sem, l4]) rfl ⟨rfl, ?_, unhide G4⟩
      rw [HEND.out]
      exact unhide O4
#print axioms l3Set_any

set_option maxRecDepth 100000 in
set_option maxHeartbeats 4000000 in
theorem sTreSet_any (v : Value) (xs : List ByteArray) (p : Int) (s : ByteArray) (w : World) (h : SRow w v xs) (hx : ∀ x ∈ xs, x.size ≤ maxLen) (hs : s.size ≤ maxLen) :
    Calls Try.prog 18 #[.agg #[v], .int .i64 p, .string s] w fun e w' => ∃ u, e = .returned (.agg #[u]) ∧ Own w.heap.size w' u (setRes xs p s) ∧ Below w.heap.size w w' := by
  obtain ⟨ao, cap, rfl, h1, h2, _⟩ := h.form
  have HX := hide hx
  have HS := hide hs
  have hR := hide h
  unfold maxLen at hs
  clear h hx
  go_enter Try.func18, Try.ntmps18
  go_wp2_with fail
  refine (sTreOk_any _ xs _ (((unhide hR).below ((Below.refl _ _).alloc (Nat.le_refl _) _)).below ((Below.refl _ _).alloc (Nat.le_refl _) _)) (unhide HX)).mono ?_
  rintro e w1 ⟨rfl, hb1⟩
  have A1 := hide (box_below ((Boxed.new w 25 (.slice ao xs.length cap)).alloc (.cells #[.slice none 0 0] 25)) hb1)
  have B1 := hide (box_below (Boxed.new (w.alloc (.cells #[.slice ao xs.length cap] 25)) 25 (.slice none 0 0)) hb1)
  rw [World.size_alloc] at B1
  have HB1 : Hid (Below w.heap.size w w1) := (((Below.refl _ _).alloc (Nat.le_refl _) _).alloc (by simp) _).trans (hb1.mono (by simp; omega))
  have hs1 := hb1.size
  rw [World.size_alloc, World.size_alloc] at hs1
  clear hb1
  cases hk : treOk xs with
  | false =>
    have HE : Hid (setRes xs p s = []) := setRes_no (by rw [hk]; simp)
    have HB2 := hide (below_box (unhide HB1) (b := w.heap.size + 1) (by omega) (.slice none 0 0))
    have l1 := (unhide B1).cell
    have l2 := (unhide B1).frozen
    have l3 := ((unhide B1).set (.slice none 0 0)).cell
    clear hk
    go_wp2_with fail
    refine bodyPost_ret (v := .agg #[.slice none 0 0]) (by simp [results, Try.results18, go_sem, l3]) rfl ⟨_, rfl, by rw [HE.out]; exact World.ownsRow_nil _ _ _ _, unhide HB2⟩
  | true =>
    by_cases hp : 0 ≤ p ∧ p ≤ 7
    · obtain ⟨k, rfl⟩ : ∃ k : Nat, p = (k : Int) := ⟨p.toNat, by omega⟩
      have hk8 : k < 8 := by omega
      have HL : Hid (xs.length = 15) := (treOk_iff.1 hk).1
      have HK := hide hk
      clear hp hk
      go_wp2_with fail
      refine (l1In_yes _ _ _ _ (by omega) (by omega)).mono ?_
      rintro e wa ⟨rfl, rfl⟩
      go_wp2_with fail
      refine (sSecOk_any s _ HS.out).mono ?_
      cases hos : Kw.ok s with
      | false =>
        rintro e w2 ⟨rfl, hb2⟩
        have HE : Hid (setRes xs (k : Int) s = []) := setRes_no (by unfold maySet; rw [hos]; simp)
        have HB3 := hide (HB1.out.trans (hb2.mono HB1.out.size))
        have B2 := box_below (unhide B1) hb2
        have HB2 := hide (below_box (unhide HB3) (b := w.heap.size + 1) (by omega) (.slice none 0 0))
        have l1 := B2.cell
        have l2 := B2.frozen
        have l3 := (B2.set (.slice none 0 0)).cell
        clear hb2 B2 hos
        go_wp2_with fail
        refine bodyPost_ret (v := .agg #[.slice none 0 0]) (by simp [results, Try.results18, go_sem, l3]) rfl ⟨_, rfl, by rw [HE.out]; exact World.ownsRow_nil _ _ _ _, unhide HB2⟩
      | true =>
        rintro e w2 ⟨rfl, hb2⟩
        have HB3 := hide (HB1.out.trans (hb2.mono HB1.out.size))
        have B2 := hide (box_below (unhide B1) hb2)
        have A2 := hide (box_below (unhide A1) hb2)
        have hs2 := hb2.size
        have HOS := hide hos
        clear hb2 hos A1 B1
        by_cases hsz : s.size ≤ 292
        · have hsz2 : decide ((292 : Int) < (s.size : Int)) = false := by simp; omega
          have HE : Hid (setRes xs (k : Int) s = setKeys xs k s) := setRes_yes HK.out hk8 (by unfold maySet; rw [HOS.out]; simpa using hsz)
          have l0 := (unhide A2).cell
          go_wp2_with fail
          refine (l3Copy_any _ xs _ ((unhide hR).below (unhide HB3)) (by have := HL.out; omega)).mono ?_
          rintro e w4 ⟨u4, rfl, ho4, hb4⟩
          unfold Own at ho4
          rw [HL.out] at ho4
          obtain ⟨g, c, rfl, hg1, hg2, hg3, hg4⟩ := row15 ho4
          have O4 := hide ho4
          have B4 := hide (box_below (unhide B2) hb4)
          have HB4 := hide (HB3.out.trans (hb4.mono HB3.out.size))
          have hs4 := hb4.size
          clear ho4 hb4 A2 B2 l0
          go_wp2_with fail
          refine (l3Set_any w2.heap.size g c xs HL.out k hk8 s (by omega) _ (unhide O4)).mono ?_
          rintro e w5 ⟨rfl, ho5, hg⟩
          have B5 := hide (box_grown (unhide B4) (unhide O4) (by decide) hg)
          have HB5 : Hid (Below w.heap.size w w5) := (unhide HB4).grown hg HB4.out.size (fun z hz => by cases hz; omega)
          have O5 : Hid _ := row_box ho5 (unhide B5) (by decide) (.slice (some ⟨g, 0, none⟩) 15 c)
          have l1 := (unhide B5).cell
          have l2 := (unhide B5).frozen
          have l3 := ((unhide B5).set (.slice (some ⟨g, 0, none⟩) 15 c)).cell
          have HB6 := hide (below_box (unhide HB5) (b := w.heap.size + 1) (by omega) (.slice (some ⟨g, 0, none⟩) 15 c))
          clear ho5 hg B4 O4 HB4 HB5 B5
          go_wp2_with fail
          refine bodyPost_ret (v := .agg #[.slice (some ⟨g, 0, none⟩) 15 c]) (by simp [results, Try.results18, go_sem, l3]) rfl ⟨_, rfl, ?_, unhide HB6⟩
          rw [HE.out]
          unfold Own
          rw [setKeys_len, HL.out]
          exact row_lowB (unhide O5) (by have := HB3.out.size; omega)
        · have hsz2 : (292 : Int) < (s.size : Int) := by omega
          have HE : Hid (setRes xs (k : Int) s = []) := setRes_no (by unfold maySet; rw [HOS.out]; simp; omega)
          have HB2 := hide (below_box (unhide HB3) (b := w.heap.size + 1) (by omega) (.slice none 0 0))
          have l1 := (unhide B2).cell
          have l2 := (unhide B2).frozen
          have l3 := ((unhide B2).set (.slice none 0 0)).cell
          go_wp2_with fail
          refine bodyPost_ret (v := .agg #[.slice none 0 0]) (by simp [results, Try.results18, go_sem, l3]) rfl ⟨_, rfl, by rw [HE.out]; exact World.ownsRow_nil _ _ _ _, unhide HB2⟩
    · have HE : Hid (setRes xs p s = []) := setRes_no (fun q => hp q.1.2)
      have HP := hide hp
      have HB2 := hide (below_box (unhide HB1) (b := w.heap.size + 1) (by omega) (.slice none 0 0))
      have l1 := (unhide B1).cell
      have l2 := (unhide B1).frozen
      have l3 := ((unhide B1).set (.slice none 0 0)).cell
      clear hk hp
      go_wp2_with fail
      refine (l1In_no _ _ _ _ (by have := HP.out; omega)).mono ?_
      rintro e wa ⟨rfl, rfl⟩
      go_wp2_with fail
      refine bodyPost_ret (v := .agg #[.slice none 0 0]) (by simp [results, Try.results18, go_sem, l3]) rfl ⟨_, rfl, by rw [HE.out]; exact World.ownsRow_nil _ _ _ _, unhide HB2⟩
#print axioms sTreSet_any
end Go.Proofs.Ytjmnfdfnndoffaa
/-
  Trees without keys: TreNew of the specification.
-/
namespace Go.Proofs.Ytjmnfdfnndoffaa
open Go.RowKit

/-- No keys. -/
def bare : List ByteArray := List.replicate 15 ByteArray.empty
theorem grownBy_setCell0 (W : World) (b : Nat) (v : Value) : W.grownBy (W.setCell ⟨b, 0, none⟩ v) (some b) :=
  ⟨rfl, rfl, rfl, by simp [World.setCell], fun k _ hk => Below.heap_setCell _ _ _ k (fun e => hk (by rw [e]))⟩

set_option maxRecDepth 100000 in
set_option maxHeartbeats 1000000 in
theorem sTreNew_any (w : World) : Calls Try.prog 48 #[] w fun e w' => ∃ v, e = .returned (.agg #[v]) ∧ Own w.heap.size w' v bare ∧ Below w.heap.size w w' := by
  obtain ⟨i0, hi, hz0, hz1, hz2⟩ := info_parts info_str2
  have hI := hide (And.intro hi (And.intro hz0 hz1))
  have hB2 : Hid (i0.bytes * 15 ≤ 281474976710656) := by show _ ≤ _; rw [hz2]; omega
  clear hi hz0 hz1 hz2
  go_enter Try.func48, Try.ntmps48
  go_wp2_with (at_make; refine wpList_make_full _ rfl _ _ 23 rfl w.heap.size 9 i0 (.string ⟨#[]⟩) 1 Try.underlying23 (unhide hI).1 (unhide hI).2.1 (unhide hI).2.2 _ _ _ _ 15 rfl rfl rfl rfl (unhide hB2) (by unfold maxLen; omega) (by simp) ?_)
  intro w1 hown hgrow
  have hO1 : Hid (Own w.heap.size w1 (.slice (some ⟨w.heap.size + 1, 0, none⟩) 15 15) bare) := by
    have e : (madeCells #[Value.string ⟨#[]⟩] 15).toList = bare.map Value.string := by
      simp [madeCells, Nat.mod_one, List.map_const', bare]; rfl
    rw [e] at hown
    exact hown
  have hL1 : Hid (Below w.heap.size w w1) := ((Below.refl _ _).alloc (Nat.le_refl _) _).grown hgrow (by simp) (fun k hk => by cases hk)
  have hblk : w1.heap[w.heap.size]? = some (.cells #[.slice none 0 0] 25) := (hgrow.block w.heap.size (by simp) (by simp)).trans (World.alloc_heap_new w _)
  have hc : w1.cell? ⟨w.heap.size, 0, none⟩ = some (.slice none 0 0) := by simp [World.cell?, hblk]
  have hf : w1.frozen? ⟨w.heap.size, 0, none⟩ = false := by simp [World.frozen?, hblk]
  clear hown hgrow
  go_wp2_with fail
  refine bodyPost_ret (v := .agg #[.slice (some ⟨w.heap.size + 1, 0, none⟩) 15 15]) (by simp [results, Try.results48, go_sem, hc]) rfl ⟨_, rfl, ?_, (unhide hL1).setCell (p := ⟨w.heap.size, 0, none⟩) (Nat.le_refl _) _⟩
  refine World.ownsRow.kept (unhide hO1) (grownBy_setCell0 w1 w.heap.size _) (.inr ?_)
  simp [Value.ownBlock]

#print axioms sTreNew_any
end Go.Proofs.Ytjmnfdfnndoffaa
/-
  Contracts of the reader by which inputs are drawn: what one draw leaves.
-/
namespace Go.Proofs.Ytjmnfdfnndoffaa
open Go.RowKit

/-- All blocks but one are as they were; more may have come. -/
structure Ex (b : Nat) (w w' : World) : Prop where
  os : w'.os = w.os
  tape : w'.tape = w.tape
  output : w'.output = w.output
  size : w.heap.size ≤ w'.heap.size
  block : ∀ k, k < w.heap.size → k ≠ b → w'.heap[k]? = w.heap[k]?

theorem Ex.refl (b : Nat) (w : World) : Ex b w w := ⟨rfl, rfl, rfl, Nat.le_refl _, fun _ _ _ => rfl⟩
theorem Ex.trans {b : Nat} {u v w : World} (h : Ex b u v) (k : Ex b v w) : Ex b u w :=
  ⟨k.os.trans h.os, k.tape.trans h.tape, k.output.trans h.output, Nat.le_trans h.size k.size, fun i hi hn => (k.block i (Nat.lt_of_lt_of_le hi h.size) hn).trans (h.block i hi hn)⟩
theorem Ex.of_below (b : Nat) {w w' : World} (h : Below w.heap.size w w') : Ex b w w' := ⟨h.os, h.tape, h.output, h.size, fun k hk _ => h.block k hk⟩
theorem Ex.set {b : Nat} {u w : World} (h : Ex b u w) (o : Nat) (v : Value) : Ex b u (w.setCell ⟨b, o, none⟩ v) :=
  h.trans ⟨rfl, rfl, rfl, by simp [World.setCell], fun k _ hn => Below.heap_setCell _ _ _ _ hn⟩
theorem Ex.drewN {b : Nat} {u w : World} (h : Ex b u w) (n : Nat) : Ex b u (w.drewN n) := h.trans ⟨rfl, rfl, rfl, Nat.le_refl _, fun _ _ _ => rfl⟩
theorem Ex.drew {b : Nat} {u w : World} (h : Ex b u w) : Ex b u w.drew := h.trans ⟨rfl, rfl, rfl, Nat.le_refl _, fun _ _ _ => rfl⟩
theorem Ex.alloc {b : Nat} {u w : World} (h : Ex b u w) (o : Obj) : Ex b u (w.alloc o) := h.trans ⟨rfl, rfl, rfl, by simp, fun k hk _ => Below.heap_alloc _ _ _ hk⟩
theorem Ex.below {b : Nat} {w w' : World} (h : Ex b w w') {B : Nat} (hB : B ≤ b) (hw : B ≤ w.heap.size) : Below B w w' := ⟨h.os, h.tape, h.output, h.size, fun k hk => h.block k (by omega) (by omega)⟩
theorem Ex.cell {b : Nat} {w w' : World} (h : Ex b w w') {p : Addr} (hp : p.block < w.heap.size) (hn : p.block ≠ b) : w'.cell? p = w.cell? p := World.cell?_of_block (w := w) (h.block p.block hp hn)
theorem Ex.frozen {b : Nat} {w w' : World} (h : Ex b w w') {p : Addr} (hp : p.block < w.heap.size) (hn : p.block ≠ b) : w'.frozen? p = w.frozen? p := World.frozen?_of_block (w := w) (h.block p.block hp hn)

/-- A reader of a code lies at block b; it has drawn p times. -/
structure Dr (b : Nat) (a : Option Addr) (len cap : Nat) (z : Nat → Int) (p : Nat) (w : World) : Prop where
  c0 : w.cell? ⟨b, 0, none⟩ = some (.slice a len cap)
  c1 : w.cell? ⟨b, 1, none⟩ = some (.int .i64 (p : Int))
  f1 : w.frozen? ⟨b, 1, none⟩ = false
  lt : b < w.heap.size
  le : len ≤ 2000
  row : len = 0 ∨ ∃ x : Addr, a = some x ∧ x.block < b ∧ ∀ i, i < len → w.cell? (x.add i) = some (.int .u8 (z i)) ∧ 0 ≤ z i ∧ z i ≤ 255

theorem cell_other {w : World} {b : Nat} {q : Addr} {u : Value} (h : w.cell? q = some u) (hq : q.block < b) (v : Value) : (w.setCell ⟨b, 1, none⟩ v).cell? q = some u := by
  rw [World.cell?_of_block (w := w) (Below.heap_setCell w ⟨b, 1, none⟩ v q.block (by show q.block ≠ b; omega))]
  exact h

theorem add_block (x : Addr) (i : Nat) : (x.add i).block = x.block := by unfold Addr.add; split <;> rfl
theorem cell_row {w : World} {b : Nat} {x : Addr} {i : Nat} {u : Value} (h : w.cell? (x.add i) = some u) (hx : x.block < b) (v : Value) : (w.setCell ⟨b, 1, none⟩ v).cell? (x.add i) = some u :=
  cell_other h (by rw [add_block]; exact hx) v

theorem Dr.step {b : Nat} {a : Option Addr} {len cap : Nat} {z : Nat → Int} {p : Nat} {w : World} (h : Dr b a len cap z p w) (n p' : Nat) (v : Value) (hv : v = .int .i64 (p' : Int)) :
    Dr b a len cap z p' ((w.drewN n).setCell ⟨b, 1, none⟩ v) ∧ Ex b w ((w.drewN n).setCell ⟨b, 1, none⟩ v) := by
  obtain ⟨c0, c1, f1, lt, le, row⟩ := h
  subst hv
  refine ⟨⟨by simp [go_sem, c0], by simp [go_sem, c1], by simp [go_sem, f1], by simpa [World.setCell] using lt, le, ?_⟩, ((Ex.refl b w).drewN n).set 1 _⟩
  rcases row with h0 | ⟨x, hx, hxb, hr⟩
  · exact .inl h0
  · exact .inr ⟨x, hx, hxb, fun i hi => ⟨cell_row (w := w.drewN n) (hr i hi).1 hxb _, (hr i hi).2⟩⟩

theorem Dr.step0 {b : Nat} {a : Option Addr} {len cap : Nat} {z : Nat → Int} {p : Nat} {w : World} (h : Dr b a len cap z p w) (n p' : Nat) (v : Value) (hv : v = .int .i64 (p' : Int)) :
    Dr b a len cap z p' ((w.setCell ⟨b, 1, none⟩ v).drewN n) ∧ Ex b w ((w.setCell ⟨b, 1, none⟩ v).drewN n) := h.step n p' v hv

theorem bits_xor_i64_nat (a b : Nat) (ha : a < 4611686018427387904) (hb : b < 4611686018427387904) :
    bits .xor .i64 (a : Int) (b : Int) = ((a ^^^ b : Nat) : Int) := by
  have hx : a ^^^ b < 2 ^ 62 := Nat.xor_lt_two_pow (by omega) (by omega)
  have h1 : (BitVec.ofInt 64 (a : Int)).toNat = a := by
    rw [BitVec.ofInt_natCast, BitVec.toNat_ofNat]; exact Nat.mod_eq_of_lt (by omega)
  have h2 : (BitVec.ofInt 64 (b : Int)).toNat = b := by
    rw [BitVec.ofInt_natCast, BitVec.toNat_ofNat]; exact Nat.mod_eq_of_lt (by omega)
  show IntKind.i64.wrap ((BitVec.ofInt 64 (a : Int) ^^^ BitVec.ofInt 64 (b : Int)).toNat : Int) = _
  rw [BitVec.toNat_xor, h1, h2]
  simp [IntKind.wrap, IntKind.bits, IntKind.signed]; omega

theorem ret_nat {a : Int} {b : Nat} (h : a = (b : Int)) : Ending.returned (.int .i64 a) = .returned (.int .i64 (b : Int)) := by rw [h]

theorem mix_nat {X : Int} {n : Nat} (h0 : 0 ≤ X) (h1 : X < 4611686018427387904) (hn : 1 ≤ n) : ∃ v : Nat, (bits BinOp.xor IntKind.i64 X (X / 64)).tmod (n : Int) = (v : Int) ∧ v < n := by
  obtain ⟨k, rfl⟩ := Int.eq_ofNat_of_zero_le h0
  have e : ((k : Int) / 64) = ((k / 64 : Nat) : Int) := by omega
  rw [e, bits_xor_i64_nat k (k / 64) (by omega) (by omega)]
  exact ⟨(k ^^^ (k / 64)) % n, rfl, Nat.mod_lt _ (by omega)⟩

set_option maxHeartbeats 1000000 in
theorem pick_row (b : Nat) (x : Addr) (len cap : Nat) (z : Nat → Int) (p n : Nat) (w : World) (h : Dr b (some x) len cap z p w) (hn : 1 ≤ n) (hn2 : n ≤ 1000) (hp : p ≤ 1000000) (hl : len ≠ 0) :
    Calls Try.prog 36 #[.pointer (some ⟨b, 0, none⟩), .int .i64 (n : Int)] w fun e w' => ∃ v : Nat, e = .returned (.int .i64 (v : Int)) ∧ v < n ∧ Dr b (some x) len cap z (p + 1) w' ∧ Ex b w w' := by
  have hD := hide h
  obtain ⟨c0, c1, f1, lt, le, row⟩ := h
  have hn3 : decide ((n : Int) < 1) = false := by simp; omega
  have hl3 : ((len : Int) == 0) = false := by simp; omega
  obtain ⟨x', hx, hxb, hrow⟩ := row.resolve_left hl
  simp only [Option.some.injEq] at hx
  subst hx
  by_cases hlt : p < len
  · obtain ⟨r1, r2, r3⟩ := hrow p hlt
    have r4 : ∀ v, (w.setCell ⟨b, 1, none⟩ v).cell? (x.add p) = some (.int .u8 (z p)) := fun v => cell_row r1 hxb v
    have hn4 : ((n : Int) == 0) = false := by simp; omega
    clear hrow row r1
    go_enter Try.func36, Try.ntmps36
    go_wp2_with fail
    go_ret
    obtain ⟨d1, d2⟩ := (unhide hD).step 0 (p + 1) (.int .i64 ((p : Int) + 1)) (by simp)
    have w1 := Int.emod_nonneg (z p) (show (n : Int) ≠ 0 by omega)
    have w2 := Int.emod_lt_of_pos (z p) (show (0 : Int) < (n : Int) by omega)
    exact ⟨(z p % (n : Int)).toNat, ret_nat (by omega), by omega, d1, d2⟩
  · have hd : decide ((p : Int) < (len : Int)) = false := by simp; omega
    obtain ⟨k1, t1, m1⟩ : ∃ k1 : Nat, (p : Int).tmod (len : Int) = (k1 : Int) ∧ k1 < len := ⟨p % len, rfl, Nat.mod_lt _ (by omega)⟩
    obtain ⟨k2, t2, m2⟩ : ∃ k2 : Nat, ((p : Int) * 7 + 3).tmod (len : Int) = (k2 : Int) ∧ k2 < len := ⟨(p * 7 + 3) % len, rfl, Nat.mod_lt _ (by omega)⟩
    obtain ⟨k3, t3, m3⟩ : ∃ k3 : Nat, (p : Int).tdiv (len : Int) = (k3 : Int) ∧ k3 ≤ 1000000 := ⟨p / len, rfl, by have := Nat.div_le_self p len; omega⟩
    obtain ⟨r1, r2, r3⟩ := hrow _ m1
    obtain ⟨q1, q2, q3⟩ := hrow _ m2
    have r4 : ∀ v, (w.setCell ⟨b, 1, none⟩ v).cell? (x.add k1) = some (.int .u8 (z k1)) := fun v => cell_row r1 hxb v
    have q4 : ∀ v, (w.setCell ⟨b, 1, none⟩ v).cell? (x.add k2) = some (.int .u8 (z k2)) := fun v => cell_row q1 hxb v
    have m1' : (k1 : Int) < (len : Int) := by omega
    have m2' : (k2 : Int) < (len : Int) := by omega
    have hn4 : ((n : Int) == 0) = false := by simp; omega
    generalize z k1 = z1 at *
    generalize z k2 = z2 at *
    clear hrow row r1 q1
    go_enter Try.func36, Try.ntmps36
    go_wp2_with fail
    go_quiet (fail)
    go_wp2_with fail
    go_ret
    obtain ⟨d1, d2⟩ := (unhide hD).step0 nq (p + 1) (.int .i64 ((p : Int) + 1)) (by simp)
    obtain ⟨v, hv1, hv2⟩ := mix_nat (X := z1 * 131 + z2 * 1117 + (p : Int) * 29 + (k3 : Int) * 53) (by omega) (by omega) hn
    exact ⟨v, ret_nat hv1, hv2, d1, d2⟩

/-- A code that is read. -/
structure Code where
  a : Option Addr
  len : Nat
  cap : Nat
  z : Nat → Int

def DrC (b : Nat) (C : Code) (p : Nat) (w : World) : Prop := Dr b C.a C.len C.cap C.z p w

theorem DrC.lt {b : Nat} {C : Code} {p : Nat} {w : World} (h : DrC b C p w) : b < w.heap.size := Dr.lt h
theorem DrC.below {b : Nat} {C : Code} {p : Nat} {w w' : World} (h : DrC b C p w) (hb : Below w.heap.size w w') : DrC b C p w' := by
  obtain ⟨c0, c1, f1, lt, le, row⟩ := h
  refine ⟨(hb.cell (p := ⟨b, 0, none⟩) lt).trans c0, (hb.cell (p := ⟨b, 1, none⟩) lt).trans c1, (hb.frozen (p := ⟨b, 1, none⟩) lt).trans f1, Nat.lt_of_lt_of_le lt hb.size, le, ?_⟩
  rcases row with h0 | ⟨x, hx, hxb, hr⟩
  · exact .inl h0
  · exact .inr ⟨x, hx, hxb, fun i hi => ⟨(hb.cell (p := x.add i) (by rw [add_block]; omega)).trans (hr i hi).1, (hr i hi).2⟩⟩
theorem DrC.alloc {b : Nat} {C : Code} {p : Nat} {w : World} (h : DrC b C p w) (o : Obj) : DrC b C p (w.alloc o) := h.below ((Below.refl _ _).alloc (Nat.le_refl _) _)
theorem DrC.drew {b : Nat} {C : Code} {p : Nat} {w : World} (h : DrC b C p w) : DrC b C p w.drew := h.below (Below.refl _ _).drew
theorem DrC.drewN {b : Nat} {C : Code} {p : Nat} {w : World} (h : DrC b C p w) (n : Nat) : DrC b C p (w.drewN n) := h.below (below_drewN (Below.refl _ _) n)

/-- What one draw comes to. -/
def PickPost (b : Nat) (C : Code) (p n : Nat) (w : World) (e : Ending) (w' : World) : Prop :=
  ∃ v : Nat, e = .returned (.int .i64 (v : Int)) ∧ v < n ∧ DrC b C (p + 1) w' ∧ Ex b w w'

set_option maxHeartbeats 1000000 in
theorem pick_any (b : Nat) (C : Code) (p n : Nat) (m : Int) (hm : m = (n : Int)) (w : World) (h : DrC b C p w) (hn : 1 ≤ n) (hn2 : n ≤ 1000) (hp : p ≤ 1000000) :
    Calls Try.prog 36 #[.pointer (some ⟨b, 0, none⟩), .int .i64 m] w (PickPost b C p n w) := by
  subst hm
  obtain ⟨a, len, cap, z⟩ := C
  by_cases hl : len = 0
  · have hD : Hid (Dr b a len cap z p w) := h
    obtain ⟨c0, c1, f1, lt, le, row⟩ := h
    simp only at c0
    subst hl
    have hn3 : decide ((n : Int) < 1) = false := by simp; omega
    clear row
    go_enter Try.func36, Try.ntmps36
    go_wp2_with fail
    go_ret
    obtain ⟨d1, d2⟩ := (unhide hD).step 0 (p + 1) (.int .i64 ((p : Int) + 1)) (by simp)
    exact ⟨0, rfl, by omega, d1, d2⟩
  · have h2 : Dr b a len cap z p w := h
    obtain ⟨x, hx, _⟩ := h2.row.resolve_left hl
    subst hx
    exact pick_row b x len cap z p n w h2 hn hn2 hp hl

end Go.Proofs.Ytjmnfdfnndoffaa
