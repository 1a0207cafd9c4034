/-
  The specification's TreSet.
-/
import Derived.Test.YtjmnfdfnndoffaaFnTreCoverB6
import Derived.Test.YtjmnfdfnndoffaaFnTreCoverB4
import Derived.RangeFuncRecord
import Derived.Test.YtjmnfdfnndoffaaFnTreCoverB1
import Derived.Deep.RegionWith
import Derived.Test.YtjmnfdfnndoffaaFnTreCoverB2
import Derived.Test.YtjmnfdfnndoffaaFnTreCoverB3
namespace Go.Proofs.Ytjmnfdfnndoffaa
open Go.RowKit

set_option maxRecDepth 100000 in
set_option maxHeartbeats 4000000 in
theorem l3Set_any (B g c : Nat) (xs : List ByteArray) (hl : xs.length = 15) (k : Nat) (hk : k < 8) (s : ByteArray) (hss : s.size ≤ 300) (w : World) (h : w.ownsRow B 9 1 (.slice (some ⟨g, 0, none⟩) 15 c) 15 (xs.map Value.string)) :
    Calls Try.prog 44 #[.agg #[.slice (some ⟨g, 0, none⟩) 15 c], .int .i64 (k : Int), .string s] w fun e w' => e = .returned (.agg #[.slice (some ⟨g, 0, none⟩) 15 c]) ∧ w'.ownsRow B 9 1 (.slice (some ⟨g, 0, none⟩) 15 c) 15 ((setKeys xs k s).map Value.string) ∧ w.grownBy w' (some g) := by
  obtain ⟨_, _, e0, hg1, hg2, hg3, hg4⟩ := row15 h
  simp only [Value.slice.injEq, Option.some.injEq, Addr.mk.injEq, true_and, and_true] at e0
  obtain ⟨rfl, rfl⟩ := e0
  have hLf : Hid (leafOf (k : Int) = ((7 + k : Nat) : Int)) := by show _ = _; unfold leafOf; rw [if_pos (by omega)]; omega
  have HUP : Hid (upOf ((7 + k : Nat) : Int) = ints (ups (7 + k))) := by show upOf _ = _; unfold upOf; rw [if_pos (by omega)]; rfl
  have hul := ups_len (7 + k) (by omega)
  have hult := ups_lt (7 + k) (by omega)
  have HEND : Hid (setKeys xs k s = fill xs s ([7 + k] ++ (ups (7 + k)).take (ups (7 + k)).length)) := by show _ = _; rw [List.take_length]; rfl
  generalize hN : ups (7 + k) = N at *
  clear hN
  obtain ⟨lf, hlf⟩ : ∃ lf : Nat, lf = 7 + k := ⟨_, rfl⟩
  rw [← hlf] at hLf HUP HEND
  have hlf2 : lf < 15 := by omega
  have jl : (lf : Int) < 15 := by omega
  clear hlf
  have hrW : Hid _ := own_below' (own_below' h ((Below.refl _ _).alloc (Nat.le_refl _) (.cells #[.slice (some ⟨g, 0, none⟩) 15 c] 25))) ((Below.refl _ _).alloc (Nat.le_refl _) (.cells #[.slice none 0 0] 25))
  have bA : Hid _ := (Boxed.new w 25 (.slice (some ⟨g, 0, none⟩) 15 c)).alloc (.cells #[.slice none 0 0] 25)
  have bR := Boxed.new (w.alloc (.cells #[.slice (some ⟨g, 0, none⟩) 15 c] 25)) 25 (.slice none 0 0)
  rw [World.size_alloc] at bR
  have bR1 := hide bR
  have hgW : Hid (w.grownBy ((w.alloc (.cells #[.slice (some ⟨g, 0, none⟩) 15 c] 25)).alloc (.cells #[.slice none 0 0] 25)) (some g)) := (World.grownBy_alloc w _ _).trans (World.grownBy_alloc _ _ _)
  have hWs : ((w.alloc (.cells #[.slice (some ⟨g, 0, none⟩) 15 c] 25)).alloc (.cells #[.slice none 0 0] 25)).heap.size = w.heap.size + 2 := by simp
  have HL := hide hl
  clear h bR hl
  go_enter Try.func44, Try.ntmps44
  go_wp2_with fail
  refine (sTreLeaf_any _ _).mono ?_
  rw [hLf.out]
  rintro e wz ⟨rfl, rfl⟩
  go_wp2_with fail
  refine wp_region_later (by kernel_rfl) ?_
  refine later_take (i := 0) (d := 12) (v := ?_) (by kernel_rfl) (by kernel_rfl) (by kernel_rfl) (by kernel_rfl) (fun _ _ _ h => h) (fun oi hoi => ?_) ?_
  rotate_left
  · simp at hoi
    subst hoi
    refine ⟨by rfl, fun w' hw' => ?_⟩
    go_simp
    all_goals rfl
  try simp only [Act.put, List.setIfInBounds_toArray, List.set_cons_zero, List.set_cons_succ]
  refine later_take (i := 1) (d := 13) (v := ?_) (by kernel_rfl) (by kernel_rfl) (by kernel_rfl) (by kernel_rfl) (fun _ _ _ h => h) (fun oi hoi => ?_) ?_
  rotate_left
  · simp at hoi
    subst hoi
    refine ⟨by rfl, fun w' hw' => ?_⟩
    have hx := (box_below (w := ((w.alloc (.cells #[.slice (some ⟨g, 0, none⟩) 15 c] 25)).alloc (.cells #[.slice none 0 0] 25)).drew) (unhide bA) hw').cell
    go_simp
    all_goals rfl
  try simp only [Act.put, List.setIfInBounds_toArray, List.set_cons_zero, List.set_cons_succ]
  refine later_take (i := 2) (d := 14) (v := ?_) (by kernel_rfl) (by kernel_rfl) (by kernel_rfl) (by kernel_rfl) (fun _ _ _ h => h) (fun oi hoi => ?_) ?_
  rotate_left
  · simp at hoi
    subst hoi
    refine ⟨by rfl, fun w' hw' => ?_⟩
    go_simp
    all_goals rfl
  try simp only [Act.put, List.setIfInBounds_toArray, List.set_cons_zero, List.set_cons_succ]
  refine later_take (i := 3) (d := 15) (v := ?_) (by kernel_rfl) (by kernel_rfl) (by kernel_rfl) (by kernel_rfl) (fun _ _ _ h => h) (fun oi hoi => ?_) ?_
  rotate_left
  · simp at hoi
    subst hoi
    refine ⟨by rfl, fun w' hw' => ?_⟩
    go_simp
    all_goals rfl
  try simp only [Act.put, List.setIfInBounds_toArray, List.set_cons_zero, List.set_cons_succ]
  refine later_one (i := 4) (by kernel_rfl) (fun oi K hoi hK => ?_)
  simp at hoi
  subst hoi
  refine ⟨by rfl, ?_⟩
  go_simp
  refine (sMakKey_any s _ (le_maxLen (by omega))).mono ?_
  rintro e wk ⟨rfl, hbk⟩
  go_simp
  refine hK.out _ _ hbk ?_
  clear hK
  have o1 := own_below' (w := ((w.alloc (.cells #[.slice (some ⟨g, 0, none⟩) 15 c] 25)).alloc (.cells #[.slice none 0 0] 25)).drew) (unhide hrW) hbk
  obtain ⟨s1, s2, s3, s4⟩ := row15_set HL.out o1 lf hlf2 (mkKey s)
  have A1 := hide (box_grown (box_below (w := ((w.alloc (.cells #[.slice (some ⟨g, 0, none⟩) 15 c] 25)).alloc (.cells #[.slice none 0 0] 25)).drew) (unhide bA) hbk) o1 (by decide) s4)
  have R1 := hide (box_grown (box_below (w := ((w.alloc (.cells #[.slice (some ⟨g, 0, none⟩) 15 c] 25)).alloc (.cells #[.slice none 0 0] 25)).drew) (unhide bR1) hbk) o1 (by decide) s4)
  have S3 := hide s3
  have hks : w.heap.size + 2 ≤ wk.heap.size := by have := hbk.size; simp at this; omega
  have G1 := hide ((grown_below0 (grown_drew (unhide hgW)) hbk).trans s4)
  generalize xs.getD lf ByteArray.empty = old at s1
  clear o1 s3 s4 hbk
  try simp only [Act.put, List.setIfInBounds_toArray, List.set_cons_zero, List.set_cons_succ]
  refine later_take (i := 5) (d := 17) (v := ?_) (by kernel_rfl) (by kernel_rfl) (by kernel_rfl) (by kernel_rfl) (fun _ _ _ h => h) (fun oi hoi => ?_) ?_
  rotate_left
  · simp at hoi
    subst hoi
    refine ⟨by rfl, fun w' hw' => ?_⟩
    go_simp
    all_goals rfl
  try simp only [Act.put, List.setIfInBounds_toArray, List.set_cons_zero, List.set_cons_succ]
  refine ord_last (i := 6) (by kernel_rfl) (by kernel_rfl) (by kernel_rfl) (fun oi K hoi hK => ?_)
  simp at hoi
  subst hoi
  refine ⟨by rfl, ?_⟩
  go_simp
  refine hK.out _ _ ?_
  clear hK
  try simp only [Act.put, List.setIfInBounds_toArray, List.set_cons_zero, List.set_cons_succ]
  go_wp2_with fail
  refine (sTreUp_any _ _).mono ?_
  rw [HUP.out]
  rintro e w2 ⟨u2, rfl, ho2, hb2⟩
  have U2 := hide (IIn.of ho2)
  have hs2 := hb2.size
  have A2 := hide (box_below (unhide A1) hb2)
  have R2 := hide (box_below (unhide R1) hb2)
  have O2 : Hid (w2.ownsRow B 9 1 (.slice (some ⟨g, 0, none⟩) 15 c) 15 ((fill xs s ([lf] ++ N.take 0)).map Value.string)) := own_below' (unhide S3) hb2
  have G2 : Hid (w.grownBy w2 (some g)) := grown_below0 (unhide G1) hb2
  have hgs : (wk.setCell ⟨g, lf, none⟩ (.string (mkKey s))).heap.size = wk.heap.size := by simp [World.setCell]
  rw [hgs] at U2 hs2
  obtain ⟨uo, uc, hu⟩ := row_form' ho2
  subst hu
  rw [show (ints N).length = N.length by simp [ints]] at *
  clear ho2 hb2 A1 R1 S3 G1 hgs
  go_wp2_with fail
  go_loopw [2, 9] (fun sv i wr => ∃ j : Nat, j ≤ N.length ∧ i = .int .i64 (j : Int) ∧ sv = .string (nextN s j) ∧ Hid (wr.ownsRow B 9 1 (.slice (some ⟨g, 0, none⟩) 15 c) 15 ((fill xs s ([lf] ++ N.take j)).map Value.string)) ∧ Hid (IIn wk.heap.size w2.heap.size wr (.slice uo N.length uc) (ints N)) ∧ Hid (Boxed wr w.heap.size 25 (.slice (some ⟨g, 0, none⟩) 15 c)) ∧ Hid (Boxed wr (w.heap.size + 1) 25 (.slice none 0 0)) ∧ Hid (w.grownBy wr (some g))) (fun _ i _ => N.length - (intOf i).toNat)
  case atStart => exact ⟨0, by omega, rfl, rfl, O2, U2, A2, R2, G2⟩
  case round =>
    clear O2 U2 A2 R2 G2
    obtain ⟨j, hj, rfl, rfl, hO, hU, hA, hR, hG⟩ := hrel
    by_cases hlt : j < N.length
    · have hlt2 : (j : Int) < (N.length : Int) := by omega
      have i3 : IntKind.i64.wrap ((j : Int) + 1) = (j : Int) + 1 := by simp [IntKind.wrap, IntKind.bits, IntKind.signed]; omega
      have hns := nextN_size s hss j
      have HNX : Hid (nextN s (j + 1) = mkNext (nextN s j)) := rfl
      have hns1 := nextN_size s hss (j + 1)
      generalize hsc : nextN s j = sc at *
      go_wp2_with fail
      refine (sMakNext_any sc _ (le_maxLen (by omega))).mono ?_
      rw [← HNX.out]
      rintro e wn ⟨rfl, hbn⟩
      have hOn := hide (own_below' (unhide hO) hbn)
      have hUn := hide ((unhide hU).below hbn)
      have hAn := hide (box_below (unhide hA) hbn)
      have hRn := hide (box_below (unhide hR) hbn)
      have hGn := hide (grown_below0 (unhide hG) hbn)
      clear hbn hO hU hA hR hG
      obtain ⟨q0, q1, q2, _, _, q5⟩ := (unhide hUn).irow.form
      rw [show (ints N).length = N.length by simp [ints]] at q2 q5
      simp only [Value.slice.injEq] at q2
      obtain ⟨rfl, _, rfl⟩ := q2
      obtain ⟨ad, rfl, hck⟩ := q5 j hlt
      have hnj : (ints N).getD j 0 = ((N.getD j 0 : Nat) : Int) := by
        unfold ints
        rw [List.getD_eq_getElem?_getD, List.getElem?_map, List.getD_eq_getElem?_getD, List.getElem?_eq_getElem hlt]
        rfl
      rw [hnj] at hck
      have hnl : N.getD j 0 < 7 := hult _ (by rw [List.getD_eq_getElem?_getD, List.getElem?_eq_getElem hlt]; exact List.getElem_mem hlt)
      have HTK : Hid (fill xs s ([lf] ++ N.take (j + 1)) = (fill xs s ([lf] ++ N.take j)).set (N.getD j 0) (mkKey (nextN s (j + 1)))) := by
        show _ = _
        rw [List.take_succ_eq_append_getElem hlt, ← List.append_assoc, fill_snoc, List.getD_eq_getElem?_getD, List.getElem?_eq_getElem hlt]
        simp
        congr 2
        rw [Nat.min_eq_left (by omega)]
      generalize N.getD j 0 = q at hck hnl HTK
      have hq2 : (q : Int) < 15 := by omega
      generalize hsn : nextN s (j + 1) = sn at *
      have HSN := hide hsn
      clear q5 hsc HNX hsn
      go_wp2_with fail
      refine wp_region_later (by kernel_rfl) ?_
      refine later_take (i := 0) (d := 28) (v := ?_) (by kernel_rfl) (by kernel_rfl) (by kernel_rfl) (by kernel_rfl) (fun _ _ _ h => h) (fun oi hoi => ?_) ?_
      rotate_left
      · simp at hoi
        subst hoi
        refine ⟨by rfl, fun w' hw' => ?_⟩
        go_simp
        all_goals rfl
      try simp only [Act.put, List.setIfInBounds_toArray, List.set_cons_zero, List.set_cons_succ]
      refine later_take (i := 1) (d := 29) (v := ?_) (by kernel_rfl) (by kernel_rfl) (by kernel_rfl) (by kernel_rfl) (fun _ _ _ h => h) (fun oi hoi => ?_) ?_
      rotate_left
      · simp at hoi
        subst hoi
        refine ⟨by rfl, fun w' hw' => ?_⟩
        have hx := (box_below (w := wn.drew) (unhide hAn) hw').cell
        go_simp
        all_goals rfl
      try simp only [Act.put, List.setIfInBounds_toArray, List.set_cons_zero, List.set_cons_succ]
      refine later_take (i := 2) (d := 30) (v := ?_) (by kernel_rfl) (by kernel_rfl) (by kernel_rfl) (by kernel_rfl) (fun _ _ _ h => h) (fun oi hoi => ?_) ?_
      rotate_left
      · simp at hoi
        subst hoi
        refine ⟨by rfl, fun w' hw' => ?_⟩
        go_simp
        all_goals rfl
      try simp only [Act.put, List.setIfInBounds_toArray, List.set_cons_zero, List.set_cons_succ]
      refine later_take (i := 3) (d := 31) (v := ?_) (by kernel_rfl) (by kernel_rfl) (by kernel_rfl) (by kernel_rfl) (fun _ _ _ h => h) (fun oi hoi => ?_) ?_
      rotate_left
      · simp at hoi
        subst hoi
        refine ⟨by rfl, fun w' hw' => ?_⟩
        go_simp
        all_goals rfl
      try simp only [Act.put, List.setIfInBounds_toArray, List.set_cons_zero, List.set_cons_succ]
      refine later_take (i := 4) (d := 32) (v := ?_) (by kernel_rfl) (by kernel_rfl) (by kernel_rfl) (by kernel_rfl) (fun _ _ _ h => h) (fun oi hoi => ?_) ?_
      rotate_left
      · simp at hoi
        subst hoi
        refine ⟨by rfl, fun w' hw' => ?_⟩
        go_simp
        all_goals rfl
      try simp only [Act.put, List.setIfInBounds_toArray, List.set_cons_zero, List.set_cons_succ]
      refine later_take (i := 5) (d := 33) (v := ?_) (by kernel_rfl) (by kernel_rfl) (by kernel_rfl) (by kernel_rfl) (fun _ _ _ h => h) (fun oi hoi => ?_) ?_
      rotate_left
      · simp at hoi
        subst hoi
        refine ⟨by rfl, fun w' hw' => ?_⟩
        have hx := (Below.cell hw' (cell_lt (w := wn.drew) hck)).trans hck
        go_simp
        all_goals rfl
      try simp only [Act.put, List.setIfInBounds_toArray, List.set_cons_zero, List.set_cons_succ]
      refine later_take (i := 6) (d := 34) (v := ?_) (by kernel_rfl) (by kernel_rfl) (by kernel_rfl) (by kernel_rfl) (fun _ _ _ h => h) (fun oi hoi => ?_) ?_
      rotate_left
      · simp at hoi
        subst hoi
        refine ⟨by rfl, fun w' hw' => ?_⟩
        go_simp
        all_goals rfl
      try simp only [Act.put, List.setIfInBounds_toArray, List.set_cons_zero, List.set_cons_succ]
      refine later_one (i := 7) (by kernel_rfl) (fun oi K hoi hK => ?_)
      simp at hoi
      subst hoi
      refine ⟨by rfl, ?_⟩
      go_simp
      refine (sMakKey_any sn _ (le_maxLen (by omega))).mono ?_
      rintro e wm ⟨rfl, hbm⟩
      go_simp
      refine hK.out _ _ hbm ?_
      clear hK
      have o1 := own_below' (w := wn.drew) (unhide hOn) hbm
      obtain ⟨s1, s2, s3, s4⟩ := row15_set (by rw [fill_len]; exact HL.out) o1 q (by omega) (mkKey sn)
      have S3 := hide s3
      have A3 := hide (box_grown (box_below (w := wn.drew) (unhide hAn) hbm) o1 (by decide) s4)
      have R3 := hide (box_grown (box_below (w := wn.drew) (unhide hRn) hbm) o1 (by decide) s4)
      have U3 : Hid (IIn wk.heap.size w2.heap.size (wm.setCell ⟨g, q, none⟩ (.string (mkKey sn))) (.slice (some ad) N.length uc) (ints N)) := RowIn.grown (RowIn.below (w := wn.drew) (unhide hUn) hbm) s4 (fun z hz => .inl (by cases hz; omega))
      have G3 := hide ((grown_below0 (grown_drew (unhide hGn)) hbm).trans s4)
      generalize (fill xs s ([lf] ++ N.take j)).getD q ByteArray.empty = old2 at s1
      clear o1 s3 s4 hbm
      try simp only [Act.put, List.setIfInBounds_toArray, List.set_cons_zero, List.set_cons_succ]
      refine later_take (i := 8) (d := 36) (v := ?_) (by kernel_rfl) (by kernel_rfl) (by kernel_rfl) (by kernel_rfl) (fun _ _ _ h => h) (fun oi hoi => ?_) ?_
      rotate_left
      · simp at hoi
        subst hoi
        refine ⟨by rfl, fun w' hw' => ?_⟩
        go_simp
        all_goals rfl
      try simp only [Act.put, List.setIfInBounds_toArray, List.set_cons_zero, List.set_cons_succ]
      refine ord_last (i := 9) (by kernel_rfl) (by kernel_rfl) (by kernel_rfl) (fun oi K hoi hK => ?_)
      simp at hoi
      subst hoi
      refine ⟨by rfl, ?_⟩
      go_simp
      refine hK.out _ _ ?_
      clear hK
      try simp only [Act.put, List.setIfInBounds_toArray, List.set_cons_zero, List.set_cons_succ]
      go_wp2_with fail
      go_roundw
      case rel => exact ⟨j + 1, by omega, by simp, by rw [HSN.out], by rw [HTK.out]; exact unhide S3, U3, A3, R3, G3⟩
      case measure => simp [intOf]; omega
    · have hlt2 : decide ((j : Int) < (N.length : Int)) = false := by simp; omega
      obtain rfl : j = N.length := by omega
      have l1 := (unhide hA).cell
      have l2 := (unhide hR).cell
      have l3 := (unhide hR).frozen
      have l4 := ((unhide hR).set (.slice (some ⟨g, 0, none⟩) 15 c)).cell
      have O4 : Hid _ := row_box (unhide hO) (unhide hR) (by decide) (.slice (some ⟨g, 0, none⟩) 15 c)
      have G4 : Hid (w.grownBy (wr.setCell ⟨w.heap.size + 1, 0, none⟩ (.slice (some ⟨g, 0, none⟩) 15 c)) (some g)) := by
        have q := unhide hG
        refine ⟨q.os, q.tape, q.output, by simpa [World.setCell] using q.size, fun z hz hr => ?_⟩
        rw [Below.heap_setCell wr ⟨w.heap.size + 1, 0, none⟩ _ z (by show z ≠ w.heap.size + 1; omega)]
        exact q.block z hz hr
      go_wp2_with fail
      refine bodyPost_ret (v := .agg #[.slice (some ⟨g, 0, none⟩) 15 c]) (by simp [results, Try.results44, go_sem, l4]) rfl ⟨rfl, ?_, unhide G4⟩
      rw [HEND.out]
      exact unhide O4
#print axioms l3Set_any

set_option maxRecDepth 100000 in
set_option maxHeartbeats 4000000 in
theorem sTreSet_any (v : Value) (xs : List ByteArray) (p : Int) (s : ByteArray) (w : World) (h : SRow w v xs) (hx : ∀ x ∈ xs, x.size ≤ maxLen) (hs : s.size ≤ maxLen) :
    Calls Try.prog 18 #[.agg #[v], .int .i64 p, .string s] w fun e w' => ∃ u, e = .returned (.agg #[u]) ∧ Own w.heap.size w' u (setRes xs p s) ∧ Below w.heap.size w w' := by
  obtain ⟨ao, cap, rfl, h1, h2, _⟩ := h.form
  have HX := hide hx
  have HS := hide hs
  have hR := hide h
  unfold maxLen at hs
  clear h hx
  go_enter Try.func18, Try.ntmps18
  go_wp2_with fail
  refine (sTreOk_any _ xs _ (((unhide hR).below ((Below.refl _ _).alloc (Nat.le_refl _) _)).below ((Below.refl _ _).alloc (Nat.le_refl _) _)) (unhide HX)).mono ?_
  rintro e w1 ⟨rfl, hb1⟩
  have A1 := hide (box_below ((Boxed.new w 25 (.slice ao xs.length cap)).alloc (.cells #[.slice none 0 0] 25)) hb1)
  have B1 := hide (box_below (Boxed.new (w.alloc (.cells #[.slice ao xs.length cap] 25)) 25 (.slice none 0 0)) hb1)
  rw [World.size_alloc] at B1
  have HB1 : Hid (Below w.heap.size w w1) := (((Below.refl _ _).alloc (Nat.le_refl _) _).alloc (by simp) _).trans (hb1.mono (by simp; omega))
  have hs1 := hb1.size
  rw [World.size_alloc, World.size_alloc] at hs1
  clear hb1
  cases hk : treOk xs with
  | false =>
    have HE : Hid (setRes xs p s = []) := setRes_no (by rw [hk]; simp)
    have HB2 := hide (below_box (unhide HB1) (b := w.heap.size + 1) (by omega) (.slice none 0 0))
    have l1 := (unhide B1).cell
    have l2 := (unhide B1).frozen
    have l3 := ((unhide B1).set (.slice none 0 0)).cell
    clear hk
    go_wp2_with fail
    refine bodyPost_ret (v := .agg #[.slice none 0 0]) (by simp [results, Try.results18, go_sem, l3]) rfl ⟨_, rfl, by rw [HE.out]; exact World.ownsRow_nil _ _ _ _, unhide HB2⟩
  | true =>
    by_cases hp : 0 ≤ p ∧ p ≤ 7
    · obtain ⟨k, rfl⟩ : ∃ k : Nat, p = (k : Int) := ⟨p.toNat, by omega⟩
      have hk8 : k < 8 := by omega
      have HL : Hid (xs.length = 15) := (treOk_iff.1 hk).1
      have HK := hide hk
      clear hp hk
      go_wp2_with fail
      refine (l1In_yes _ _ _ _ (by omega) (by omega)).mono ?_
      rintro e wa ⟨rfl, rfl⟩
      go_wp2_with fail
      refine (sSecOk_any s _ HS.out).mono ?_
      cases hos : Kw.ok s with
      | false =>
        rintro e w2 ⟨rfl, hb2⟩
        have HE : Hid (setRes xs (k : Int) s = []) := setRes_no (by unfold maySet; rw [hos]; simp)
        have HB3 := hide (HB1.out.trans (hb2.mono HB1.out.size))
        have B2 := box_below (unhide B1) hb2
        have HB2 := hide (below_box (unhide HB3) (b := w.heap.size + 1) (by omega) (.slice none 0 0))
        have l1 := B2.cell
        have l2 := B2.frozen
        have l3 := (B2.set (.slice none 0 0)).cell
        clear hb2 B2 hos
        go_wp2_with fail
        refine bodyPost_ret (v := .agg #[.slice none 0 0]) (by simp [results, Try.results18, go_sem, l3]) rfl ⟨_, rfl, by rw [HE.out]; exact World.ownsRow_nil _ _ _ _, unhide HB2⟩
      | true =>
        rintro e w2 ⟨rfl, hb2⟩
        have HB3 := hide (HB1.out.trans (hb2.mono HB1.out.size))
        have B2 := hide (box_below (unhide B1) hb2)
        have A2 := hide (box_below (unhide A1) hb2)
        have hs2 := hb2.size
        have HOS := hide hos
        clear hb2 hos A1 B1
        by_cases hsz : s.size ≤ 292
        · have hsz2 : decide ((292 : Int) < (s.size : Int)) = false := by simp; omega
          have HE : Hid (setRes xs (k : Int) s = setKeys xs k s) := setRes_yes HK.out hk8 (by unfold maySet; rw [HOS.out]; simpa using hsz)
          have l0 := (unhide A2).cell
          go_wp2_with fail
          refine (l3Copy_any _ xs _ ((unhide hR).below (unhide HB3)) (by have := HL.out; omega)).mono ?_
          rintro e w4 ⟨u4, rfl, ho4, hb4⟩
          unfold Own at ho4
          rw [HL.out] at ho4
          obtain ⟨g, c, rfl, hg1, hg2, hg3, hg4⟩ := row15 ho4
          have O4 := hide ho4
          have B4 := hide (box_below (unhide B2) hb4)
          have HB4 := hide (HB3.out.trans (hb4.mono HB3.out.size))
          have hs4 := hb4.size
          clear ho4 hb4 A2 B2 l0
          go_wp2_with fail
          refine (l3Set_any w2.heap.size g c xs HL.out k hk8 s (by omega) _ (unhide O4)).mono ?_
          rintro e w5 ⟨rfl, ho5, hg⟩
          have B5 := hide (box_grown (unhide B4) (unhide O4) (by decide) hg)
          have HB5 : Hid (Below w.heap.size w w5) := (unhide HB4).grown hg HB4.out.size (fun z hz => by cases hz; omega)
          have O5 : Hid _ := row_box ho5 (unhide B5) (by decide) (.slice (some ⟨g, 0, none⟩) 15 c)
          have l1 := (unhide B5).cell
          have l2 := (unhide B5).frozen
          have l3 := ((unhide B5).set (.slice (some ⟨g, 0, none⟩) 15 c)).cell
          have HB6 := hide (below_box (unhide HB5) (b := w.heap.size + 1) (by omega) (.slice (some ⟨g, 0, none⟩) 15 c))
          clear ho5 hg B4 O4 HB4 HB5 B5
          go_wp2_with fail
          refine bodyPost_ret (v := .agg #[.slice (some ⟨g, 0, none⟩) 15 c]) (by simp [results, Try.results18, go_sem, l3]) rfl ⟨_, rfl, ?_, unhide HB6⟩
          rw [HE.out]
          unfold Own
          rw [setKeys_len, HL.out]
          exact row_lowB (unhide O5) (by have := HB3.out.size; omega)
        · have hsz2 : (292 : Int) < (s.size : Int) := by omega
          have HE : Hid (setRes xs (k : Int) s = []) := setRes_no (by unfold maySet; rw [HOS.out]; simp; omega)
          have HB2 := hide (below_box (unhide HB3) (b := w.heap.size + 1) (by omega) (.slice none 0 0))
          have l1 := (unhide B2).cell
          have l2 := (unhide B2).frozen
          have l3 := ((unhide B2).set (.slice none 0 0)).cell
          go_wp2_with fail
          refine bodyPost_ret (v := .agg #[.slice none 0 0]) (by simp [results, Try.results18, go_sem, l3]) rfl ⟨_, rfl, by rw [HE.out]; exact World.ownsRow_nil _ _ _ _, unhide HB2⟩
    · have HE : Hid (setRes xs p s = []) := setRes_no (fun q => hp q.1.2)
      have HP := hide hp
      have HB2 := hide (below_box (unhide HB1) (b := w.heap.size + 1) (by omega) (.slice none 0 0))
      have l1 := (unhide B1).cell
      have l2 := (unhide B1).frozen
      have l3 := ((unhide B1).set (.slice none 0 0)).cell
      clear hk hp
      go_wp2_with fail
      refine (l1In_no _ _ _ _ (by have := HP.out; omega)).mono ?_
      rintro e wa ⟨rfl, rfl⟩
      go_wp2_with fail
      refine bodyPost_ret (v := .agg #[.slice none 0 0]) (by simp [results, Try.results18, go_sem, l3]) rfl ⟨_, rfl, by rw [HE.out]; exact World.ownsRow_nil _ _ _ _, unhide HB2⟩
#print axioms sTreSet_any
end Go.Proofs.Ytjmnfdfnndoffaa
/-
  Trees without keys: TreNew of the specification.
-/
namespace Go.Proofs.Ytjmnfdfnndoffaa
open Go.RowKit

/-- No keys. -/
def bare : List ByteArray := List.replicate 15 ByteArray.empty
theorem grownBy_setCell0 (W : World) (b : Nat) (v : Value) : W.grownBy (W.setCell ⟨b, 0, none⟩ v) (some b) :=
  ⟨rfl, rfl, rfl, by simp [World.setCell], fun k _ hk => Below.heap_setCell _ _ _ k (fun e => hk (by rw [e]))⟩

set_option maxRecDepth 100000 in
set_option maxHeartbeats 1000000 in
theorem sTreNew_any (w : World) : Calls Try.prog 48 #[] w fun e w' => ∃ v, e = .returned (.agg #[v]) ∧ Own w.heap.size w' v bare ∧ Below w.heap.size w w' := by
  obtain ⟨i0, hi, hz0, hz1, hz2⟩ := info_parts info_str2
  have hI := hide (And.intro hi (And.intro hz0 hz1))
  have hB2 : Hid (i0.bytes * 15 ≤ 281474976710656) := by show _ ≤ _; rw [hz2]; omega
  clear hi hz0 hz1 hz2
  go_enter Try.func48, Try.ntmps48
  go_wp2_with (at_make; refine wpList_make_full _ rfl _ _ 23 rfl w.heap.size 9 i0 (.string ⟨#[]⟩) 1 Try.underlying23 (unhide hI).1 (unhide hI).2.1 (unhide hI).2.2 _ _ _ _ 15 rfl rfl rfl rfl (unhide hB2) (by unfold maxLen; omega) (by simp) ?_)
  intro w1 hown hgrow
  have hO1 : Hid (Own w.heap.size w1 (.slice (some ⟨w.heap.size + 1, 0, none⟩) 15 15) bare) := by
    have e : (madeCells #[Value.string ⟨#[]⟩] 15).toList = bare.map Value.string := by
      simp [madeCells, Nat.mod_one, List.map_const', bare]; rfl
    rw [e] at hown
    exact hown
  have hL1 : Hid (Below w.heap.size w w1) := ((Below.refl _ _).alloc (Nat.le_refl _) _).grown hgrow (by simp) (fun k hk => by cases hk)
  have hblk : w1.heap[w.heap.size]? = some (.cells #[.slice none 0 0] 25) := (hgrow.block w.heap.size (by simp) (by simp)).trans (World.alloc_heap_new w _)
  have hc : w1.cell? ⟨w.heap.size, 0, none⟩ = some (.slice none 0 0) := by simp [World.cell?, hblk]
  have hf : w1.frozen? ⟨w.heap.size, 0, none⟩ = false := by simp [World.frozen?, hblk]
  clear hown hgrow
  go_wp2_with fail
  refine bodyPost_ret (v := .agg #[.slice (some ⟨w.heap.size + 1, 0, none⟩) 15 15]) (by simp [results, Try.results48, go_sem, hc]) rfl ⟨_, rfl, ?_, (unhide hL1).setCell (p := ⟨w.heap.size, 0, none⟩) (Nat.le_refl _) _⟩
  refine World.ownsRow.kept (unhide hO1) (grownBy_setCell0 w1 w.heap.size _) (.inr ?_)
  simp [Value.ownBlock]

#print axioms sTreNew_any
end Go.Proofs.Ytjmnfdfnndoffaa
/-
  Contracts of the reader by which inputs are drawn: what one draw leaves.
-/
namespace Go.Proofs.Ytjmnfdfnndoffaa
open Go.RowKit

/-- All blocks but one are as they were; more may have come. -/
structure Ex (b : Nat) (w w' : World) : Prop where
  os : w'.os = w.os
  tape : w'.tape = w.tape
  output : w'.output = w.output
  size : w.heap.size ≤ w'.heap.size
  block : ∀ k, k < w.heap.size → k ≠ b → w'.heap[k]? = w.heap[k]?

theorem Ex.refl (b : Nat) (w : World) : Ex b w w := ⟨rfl, rfl, rfl, Nat.le_refl _, fun _ _ _ => rfl⟩
theorem Ex.trans {b : Nat} {u v w : World} (h : Ex b u v) (k : Ex b v w) : Ex b u w :=
  ⟨k.os.trans h.os, k.tape.trans h.tape, k.output.trans h.output, Nat.le_trans h.size k.size, fun i hi hn => (k.block i (Nat.lt_of_lt_of_le hi h.size) hn).trans (h.block i hi hn)⟩
theorem Ex.of_below (b : Nat) {w w' : World} (h : Below w.heap.size w w') : Ex b w w' := ⟨h.os, h.tape, h.output, h.size, fun k hk _ => h.block k hk⟩
theorem Ex.set {b : Nat} {u w : World} (h : Ex b u w) (o : Nat) (v : Value) : Ex b u (w.setCell ⟨b, o, none⟩ v) :=
  h.trans ⟨rfl, rfl, rfl, by simp [World.setCell], fun k _ hn => Below.heap_setCell _ _ _ _ hn⟩
theorem Ex.drewN {b : Nat} {u w : World} (h : Ex b u w) (n : Nat) : Ex b u (w.drewN n) := h.trans ⟨rfl, rfl, rfl, Nat.le_refl _, fun _ _ _ => rfl⟩
theorem Ex.drew {b : Nat} {u w : World} (h : Ex b u w) : Ex b u w.drew := h.trans ⟨rfl, rfl, rfl, Nat.le_refl _, fun _ _ _ => rfl⟩
theorem Ex.alloc {b : Nat} {u w : World} (h : Ex b u w) (o : Obj) : Ex b u (w.alloc o) := h.trans ⟨rfl, rfl, rfl, by simp, fun k hk _ => Below.heap_alloc _ _ _ hk⟩
theorem Ex.below {b : Nat} {w w' : World} (h : Ex b w w') {B : Nat} (hB : B ≤ b) (hw : B ≤ w.heap.size) : Below B w w' := ⟨h.os, h.tape, h.output, h.size, fun k hk => h.block k (by omega) (by omega)⟩
theorem Ex.cell {b : Nat} {w w' : World} (h : Ex b w w') {p : Addr} (hp : p.block < w.heap.size) (hn : p.block ≠ b) : w'.cell? p = w.cell? p := World.cell?_of_block (w := w) (h.block p.block hp hn)
theorem Ex.frozen {b : Nat} {w w' : World} (h : Ex b w w') {p : Addr} (hp : p.block < w.heap.size) (hn : p.block ≠ b) : w'.frozen? p = w.frozen? p := World.frozen?_of_block (w := w) (h.block p.block hp hn)

/-- A reader of a code lies at block b; it has drawn p times. -/
structure Dr (b : Nat) (a : Option Addr) (len cap : Nat) (z : Nat → Int) (p : Nat) (w : World) : Prop where
  c0 : w.cell? ⟨b, 0, none⟩ = some (.slice a len cap)
  c1 : w.cell? ⟨b, 1, none⟩ = some (.int .i64 (p : Int))
  f1 : w.frozen? ⟨b, 1, none⟩ = false
  lt : b < w.heap.size
  le : len ≤ 2000
  row : len = 0 ∨ ∃ x : Addr, a = some x ∧ x.block < b ∧ ∀ i, i < len → w.cell? (x.add i) = some (.int .u8 (z i)) ∧ 0 ≤ z i ∧ z i ≤ 255

theorem cell_other {w : World} {b : Nat} {q : Addr} {u : Value} (h : w.cell? q = some u) (hq : q.block < b) (v : Value) : (w.setCell ⟨b, 1, none⟩ v).cell? q = some u := by
  rw [World.cell?_of_block (w := w) (Below.heap_setCell w ⟨b, 1, none⟩ v q.block (by show q.block ≠ b; omega))]
  exact h

theorem add_block (x : Addr) (i : Nat) : (x.add i).block = x.block := by unfold Addr.add; split <;> rfl
theorem cell_row {w : World} {b : Nat} {x : Addr} {i : Nat} {u : Value} (h : w.cell? (x.add i) = some u) (hx : x.block < b) (v : Value) : (w.setCell ⟨b, 1, none⟩ v).cell? (x.add i) = some u :=
  cell_other h (by rw [add_block]; exact hx) v

theorem Dr.step {b : Nat} {a : Option Addr} {len cap : Nat} {z : Nat → Int} {p : Nat} {w : World} (h : Dr b a len cap z p w) (n p' : Nat) (v : Value) (hv : v = .int .i64 (p' : Int)) :
    Dr b a len cap z p' ((w.drewN n).setCell ⟨b, 1, none⟩ v) ∧ Ex b w ((w.drewN n).setCell ⟨b, 1, none⟩ v) := by
  obtain ⟨c0, c1, f1, lt, le, row⟩ := h
  subst hv
  refine ⟨⟨by simp [go_sem, c0], by simp [go_sem, c1], by simp [go_sem, f1], by simpa [World.setCell] using lt, le, ?_⟩, ((Ex.refl b w).drewN n).set 1 _⟩
  rcases row with h0 | ⟨x, hx, hxb, hr⟩
  · exact .inl h0
  · exact .inr ⟨x, hx, hxb, fun i hi => ⟨cell_row (w := w.drewN n) (hr i hi).1 hxb _, (hr i hi).2⟩⟩

theorem Dr.step0 {b : Nat} {a : Option Addr} {len cap : Nat} {z : Nat → Int} {p : Nat} {w : World} (h : Dr b a len cap z p w) (n p' : Nat) (v : Value) (hv : v = .int .i64 (p' : Int)) :
    Dr b a len cap z p' ((w.setCell ⟨b, 1, none⟩ v).drewN n) ∧ Ex b w ((w.setCell ⟨b, 1, none⟩ v).drewN n) := h.step n p' v hv

theorem bits_xor_i64_nat (a b : Nat) (ha : a < 4611686018427387904) (hb : b < 4611686018427387904) :
    bits .xor .i64 (a : Int) (b : Int) = ((a ^^^ b : Nat) : Int) := by
  have hx : a ^^^ b < 2 ^ 62 := Nat.xor_lt_two_pow (by omega) (by omega)
  have h1 : (BitVec.ofInt 64 (a : Int)).toNat = a := by
    rw [BitVec.ofInt_natCast, BitVec.toNat_ofNat]; exact Nat.mod_eq_of_lt (by omega)
  have h2 : (BitVec.ofInt 64 (b : Int)).toNat = b := by
    rw [BitVec.ofInt_natCast, BitVec.toNat_ofNat]; exact Nat.mod_eq_of_lt (by omega)
  show IntKind.i64.wrap ((BitVec.ofInt 64 (a : Int) ^^^ BitVec.ofInt 64 (b : Int)).toNat : Int) = _
  rw [BitVec.toNat_xor, h1, h2]
  simp [IntKind.wrap, IntKind.bits, IntKind.signed]; omega

theorem ret_nat {a : Int} {b : Nat} (h : a = (b : Int)) : Ending.returned (.int .i64 a) = .returned (.int .i64 (b : Int)) := by rw [h]

theorem mix_nat {X : Int} {n : Nat} (h0 : 0 ≤ X) (h1 : X < 4611686018427387904) (hn : 1 ≤ n) : ∃ v : Nat, (bits BinOp.xor IntKind.i64 X (X / 64)).tmod (n : Int) = (v : Int) ∧ v < n := by
  obtain ⟨k, rfl⟩ := Int.eq_ofNat_of_zero_le h0
  have e : ((k : Int) / 64) = ((k / 64 : Nat) : Int) := by omega
  rw [e, bits_xor_i64_nat k (k / 64) (by omega) (by omega)]
  exact ⟨(k ^^^ (k / 64)) % n, rfl, Nat.mod_lt _ (by omega)⟩

set_option maxHeartbeats 1000000 in
theorem pick_row (b : Nat) (x : Addr) (len cap : Nat) (z : Nat → Int) (p n : Nat) (w : World) (h : Dr b (some x) len cap z p w) (hn : 1 ≤ n) (hn2 : n ≤ 1000) (hp : p ≤ 1000000) (hl : len ≠ 0) :
    Calls Try.prog 36 #[.pointer (some ⟨b, 0, none⟩), .int .i64 (n : Int)] w fun e w' => ∃ v : Nat, e = .returned (.int .i64 (v : Int)) ∧ v < n ∧ Dr b (some x) len cap z (p + 1) w' ∧ Ex b w w' := by
  have hD := hide h
  obtain ⟨c0, c1, f1, lt, le, row⟩ := h
  have hn3 : decide ((n : Int) < 1) = false := by simp; omega
  have hl3 : ((len : Int) == 0) = false := by simp; omega
  obtain ⟨x', hx, hxb, hrow⟩ := row.resolve_left hl
  simp only [Option.some.injEq] at hx
  subst hx
  by_cases hlt : p < len
  · obtain ⟨r1, r2, r3⟩ := hrow p hlt
    have r4 : ∀ v, (w.setCell ⟨b, 1, none⟩ v).cell? (x.add p) = some (.int .u8 (z p)) := fun v => cell_row r1 hxb v
    have hn4 : ((n : Int) == 0) = false := by simp; omega
    clear hrow row r1
    go_enter Try.func36, Try.ntmps36
    go_wp2_with fail
    go_ret
    obtain ⟨d1, d2⟩ := (unhide hD).step 0 (p + 1) (.int .i64 ((p : Int) + 1)) (by simp)
    have w1 := Int.emod_nonneg (z p) (show (n : Int) ≠ 0 by omega)
    have w2 := Int.emod_lt_of_pos (z p) (show (0 : Int) < (n : Int) by omega)
    exact ⟨(z p % (n : Int)).toNat, ret_nat (by omega), by omega, d1, d2⟩
  · have hd : decide ((p : Int) < (len : Int)) = false := by simp; omega
    obtain ⟨k1, t1, m1⟩ : ∃ k1 : Nat, (p : Int).tmod (len : Int) = (k1 : Int) ∧ k1 < len := ⟨p % len, rfl, Nat.mod_lt _ (by omega)⟩
    obtain ⟨k2, t2, m2⟩ : ∃ k2 : Nat, ((p : Int) * 7 + 3).tmod (len : Int) = (k2 : Int) ∧ k2 < len := ⟨(p * 7 + 3) % len, rfl, Nat.mod_lt _ (by omega)⟩
    obtain ⟨k3, t3, m3⟩ : ∃ k3 : Nat, (p : Int).tdiv (len : Int) = (k3 : Int) ∧ k3 ≤ 1000000 := ⟨p / len, rfl, by have := Nat.div_le_self p len; omega⟩
    obtain ⟨r1, r2, r3⟩ := hrow _ m1
    obtain ⟨q1, q2, q3⟩ := hrow _ m2
    have r4 : ∀ v, (w.setCell ⟨b, 1, none⟩ v).cell? (x.add k1) = some (.int .u8 (z k1)) := fun v => cell_row r1 hxb v
    have q4 : ∀ v, (w.setCell ⟨b, 1, none⟩ v).cell? (x.add k2) = some (.int .u8 (z k2)) := fun v => cell_row q1 hxb v
    have m1' : (k1 : Int) < (len : Int) := by omega
    have m2' : (k2 : Int) < (len : Int) := by omega
    have hn4 : ((n : Int) == 0) = false := by simp; omega
    generalize z k1 = z1 at *
    generalize z k2 = z2 at *
    clear hrow row r1 q1
    go_enter Try.func36, Try.ntmps36
    go_wp2_with fail
    go_quiet (fail)
    go_wp2_with fail
    go_ret
    obtain ⟨d1, d2⟩ := (unhide hD).step0 nq (p + 1) (.int .i64 ((p : Int) + 1)) (by simp)
    obtain ⟨v, hv1, hv2⟩ := mix_nat (X := z1 * 131 + z2 * 1117 + (p : Int) * 29 + (k3 : Int) * 53) (by omega) (by omega) hn
    exact ⟨v, ret_nat hv1, hv2, d1, d2⟩

/-- A code that is read. -/
structure Code where
  a : Option Addr
  len : Nat
  cap : Nat
  z : Nat → Int

def DrC (b : Nat) (C : Code) (p : Nat) (w : World) : Prop := Dr b C.a C.len C.cap C.z p w

theorem DrC.lt {b : Nat} {C : Code} {p : Nat} {w : World} (h : DrC b C p w) : b < w.heap.size := Dr.lt h
theorem DrC.below {b : Nat} {C : Code} {p : Nat} {w w' : World} (h : DrC b C p w) (hb : Below w.heap.size w w') : DrC b C p w' := by
  obtain ⟨c0, c1, f1, lt, le, row⟩ := h
  refine ⟨(hb.cell (p := ⟨b, 0, none⟩) lt).trans c0, (hb.cell (p := ⟨b, 1, none⟩) lt).trans c1, (hb.frozen (p := ⟨b, 1, none⟩) lt).trans f1, Nat.lt_of_lt_of_le lt hb.size, le, ?_⟩
  rcases row with h0 | ⟨x, hx, hxb, hr⟩
  · exact .inl h0
  · exact .inr ⟨x, hx, hxb, fun i hi => ⟨(hb.cell (p := x.add i) (by rw [add_block]; omega)).trans (hr i hi).1, (hr i hi).2⟩⟩
theorem DrC.alloc {b : Nat} {C : Code} {p : Nat} {w : World} (h : DrC b C p w) (o : Obj) : DrC b C p (w.alloc o) := h.below ((Below.refl _ _).alloc (Nat.le_refl _) _)
theorem DrC.drew {b : Nat} {C : Code} {p : Nat} {w : World} (h : DrC b C p w) : DrC b C p w.drew := h.below (Below.refl _ _).drew
theorem DrC.drewN {b : Nat} {C : Code} {p : Nat} {w : World} (h : DrC b C p w) (n : Nat) : DrC b C p (w.drewN n) := h.below (below_drewN (Below.refl _ _) n)

/-- What one draw comes to. -/
def PickPost (b : Nat) (C : Code) (p n : Nat) (w : World) (e : Ending) (w' : World) : Prop :=
  ∃ v : Nat, e = .returned (.int .i64 (v : Int)) ∧ v < n ∧ DrC b C (p + 1) w' ∧ Ex b w w'

set_option maxHeartbeats 1000000 in
theorem pick_any (b : Nat) (C : Code) (p n : Nat) (m : Int) (hm : m = (n : Int)) (w : World) (h : DrC b C p w) (hn : 1 ≤ n) (hn2 : n ≤ 1000) (hp : p ≤ 1000000) :
    Calls Try.prog 36 #[.pointer (some ⟨b, 0, none⟩), .int .i64 m] w (PickPost b C p n w) := by
  subst hm
  obtain ⟨a, len, cap, z⟩ := C
  by_cases hl : len = 0
  · have hD : Hid (Dr b a len cap z p w) := h
    obtain ⟨c0, c1, f1, lt, le, row⟩ := h
    simp only at c0
    subst hl
    have hn3 : decide ((n : Int) < 1) = false := by simp; omega
    clear row
    go_enter Try.func36, Try.ntmps36
    go_wp2_with fail
    go_ret
    obtain ⟨d1, d2⟩ := (unhide hD).step 0 (p + 1) (.int .i64 ((p : Int) + 1)) (by simp)
    exact ⟨0, rfl, by omega, d1, d2⟩
  · have h2 : Dr b a len cap z p w := h
    obtain ⟨x, hx, _⟩ := h2.row.resolve_left hl
    subst hx
    exact pick_row b x len cap z p n w h2 hn hn2 hp hl

end Go.Proofs.Ytjmnfdfnndoffaa
/-
  Contracts of MakSay and MakRoom, the program's and the specification's.
-/
namespace Go.Proofs.Ytjmnfdfnndoffaa
open Go.RowKit

theorem cap_yes2 {x : ByteArray} (h : x.size ≤ 300) : cap x = x := by unfold cap; rw [if_pos h]
theorem cap_no2 {x : ByteArray} (h : 300 < x.size) : cap x = ⟨#[]⟩ := by unfold cap; rw [if_neg (by omega)]

theorem method_say (x : Value) (w : World) : (method 239 103 x "loop.example/keyward/impl.name").run Try.prog w = .ok (120, x) w := by kernel_rfl
theorem method_room (x : Value) (w : World) : (method 239 105 x "loop.example/keyward/impl.name").run Try.prog w = .ok (121, x) w := by kernel_rfl

set_option maxHeartbeats 400000 in
theorem sayName_any (s : ByteArray) (who : Int) (w : World) (hs : s.size ≤ 300) (h0 : 0 ≤ who) (h1 : who < 8) :
    Calls Try.prog 120 #[.agg #[.string s, .int .i64 who]] w fun e w' => e = .returned (.string (sayT s who.toNat)) ∧ Below w.heap.size w w' := by
  have s1 : (by1 (65 + who.toNat)).size = 1 := rfl
  have s2 : ¬ (9223372036854775807 < 2 + s.size) := by omega
  go_enter Try.func120, Try.ntmps120
  go_wp2_with fail
  go_quiet ((go_at_call 104; exact Calls.quiet_of_same (letterOf_any _ _ h0 h1)))
  go_wp2
  go_ret
  exact ⟨ret_str rfl, below_drewN ((Below.refl _ _).alloc (Nat.le_refl _) _) _⟩

set_option maxHeartbeats 400000 in
theorem roomName_any (s : ByteArray) (room : Int) (w : World) (hs : s.size ≤ 300) (h0 : 1 ≤ room) (h1 : room < 10) :
    Calls Try.prog 121 #[.agg #[.string s, .int .i64 room]] w fun e w' => e = .returned (.string (roomT s room.toNat)) ∧ Below w.heap.size w w' := by
  have s1 : (dec room.toNat).size = 1 := by rw [dec_size, if_pos (by omega)]
  have s2 : ¬ (9223372036854775807 < 2 + s.size) := by omega
  have g0 : 0 ≤ room := by omega
  have g1 : room < 100 := by omega
  go_enter Try.func121, Try.ntmps121
  go_wp2_with fail
  go_quiet ((go_at_call 105; exact Calls.quiet_of_same (itoa_any _ _ g0 g1)))
  go_wp2
  go_ret
  exact ⟨ret_str rfl, below_drewN ((Below.refl _ _).alloc (Nat.le_refl _) _) _⟩

set_option maxRecDepth 100000 in
set_option maxHeartbeats 400000 in
theorem nameOf_say (s : ByteArray) (who : Int) (w : World) (hs : s.size ≤ 300) (h0 : 0 ≤ who) (h1 : who < 8) :
    Calls Try.prog 61 #[.iface 103 (.agg #[.string s, .int .i64 who])] w fun e w' => e = .returned (.string (cap (sayT s who.toNat))) ∧ Below w.heap.size w w' := by
  have hm := method_say
  have hz := say_size s who.toNat
  by_cases hc : (sayT s who.toNat).size ≤ 300
  · rw [cap_yes2 hc]
    have hd : decide ((300 : Int) < ((sayT s who.toNat).size : Int)) = false := by simp; omega
    clear hz hc
    go_enter Try.func61, Try.ntmps61
    go_wp2_with (go_at_call 120; refine (sayName_any _ _ _ hs h0 h1).mono ?_; rintro e w' ⟨rfl, hb⟩)
    go_ret
    exact ⟨rfl, hb⟩
  · rw [cap_no2 (by omega)]
    have hd : (300 : Int) < ((sayT s who.toNat).size : Int) := by omega
    have hd2 : ((sayT s who.toNat).size : Int) ≤ 1000 := by omega
    clear hz hc
    go_enter Try.func61, Try.ntmps61
    go_wp2_with (go_at_call 120; refine (sayName_any _ _ _ hs h0 h1).mono ?_; rintro e w' ⟨rfl, hb⟩)
    go_ret
    exact ⟨rfl, hb⟩

set_option maxRecDepth 100000 in
set_option maxHeartbeats 400000 in
theorem nameOf_room (s : ByteArray) (room : Int) (w : World) (hs : s.size ≤ 300) (h0 : 1 ≤ room) (h1 : room < 10) :
    Calls Try.prog 61 #[.iface 105 (.agg #[.string s, .int .i64 room])] w fun e w' => e = .returned (.string (cap (roomT s room.toNat))) ∧ Below w.heap.size w w' := by
  have hm := method_room
  have hz := room_size s room.toNat
  have hy : (dec room.toNat).size = 1 := by rw [dec_size, if_pos (by omega)]
  by_cases hc : (roomT s room.toNat).size ≤ 300
  · rw [cap_yes2 hc]
    have hd : decide ((300 : Int) < ((roomT s room.toNat).size : Int)) = false := by simp; omega
    clear hz hc hy
    go_enter Try.func61, Try.ntmps61
    go_wp2_with (go_at_call 121; refine (roomName_any _ _ _ hs h0 h1).mono ?_; rintro e w' ⟨rfl, hb⟩)
    go_ret
    exact ⟨rfl, hb⟩
  · rw [cap_no2 (by omega)]
    have hd : (300 : Int) < ((roomT s room.toNat).size : Int) := by omega
    have hd2 : ((roomT s room.toNat).size : Int) ≤ 1000 := by omega
    clear hz hc hy
    go_enter Try.func61, Try.ntmps61
    go_wp2_with (go_at_call 121; refine (roomName_any _ _ _ hs h0 h1).mono ?_; rintro e w' ⟨rfl, hb⟩)
    go_ret
    exact ⟨rfl, hb⟩

set_option maxHeartbeats 400000 in
theorem sMakSay_any (s : ByteArray) (who : Int) (w : World) (hm : s.size ≤ maxLen) :
    Calls Try.prog 73 #[.string s, .int .i64 who] w fun e w' => e = .returned (.string (mkSay s who)) ∧ Below w.heap.size w w' := by
  have M := hide hm
  clear hm
  cases hk : Kw.ok s with
  | false =>
    rw [show mkSay s who = ⟨#[]⟩ by unfold mkSay; rw [if_neg (by rw [hk]; simp)]]
    have K := hide hk
    clear hk
    go_enter Try.func73, Try.ntmps73
    go_wp2_with fail
    refine (sSecOk_any s _ M.out).mono ?_
    rw [K.out]
    rintro e w1 ⟨rfl, hb1⟩
    go_wp2_with fail
    go_ret
    exact ⟨rfl, hb1⟩
  | true =>
    have hs := (ok_facts hk).1
    by_cases hbad : who < 0 ∨ 8 ≤ who
    · rw [show mkSay s who = ⟨#[]⟩ by unfold mkSay; rw [if_neg (by omega)]]
      have K := hide hk
      clear hk
      go_enter Try.func73, Try.ntmps73
      go_wp2_with fail
      refine (sSecOk_any s _ M.out).mono ?_
      rw [K.out]
      rintro e w1 ⟨rfl, hb1⟩
      go_wp2_with fail
      refine (l1In_no _ _ _ _ (by omega)).mono ?_
      rintro e w2 ⟨rfl, rfl⟩
      go_wp2_with fail
      go_ret
      exact ⟨rfl, hb1⟩
    · have g0 : 0 ≤ who := by omega
      have g1 : who < 8 := by omega
      have hz := say_size s who.toNat
      rw [show mkSay s who = only (sayT s who.toNat) by unfold mkSay; rw [if_pos ⟨hk, g0, g1⟩, only_cap (by omega) (len_say hk (by omega))]]
      have M2 : Hid ((sayT s who.toNat).size ≤ maxLen) := by show _ ≤ maxLen; unfold maxLen; omega
      have K := hide hk
      clear hk hz hbad
      have s1 : (by1 (65 + who.toNat)).size = 1 := rfl
      have g2 : who ≤ 7 := by omega
      go_enter Try.func73, Try.ntmps73
      go_wp2_with fail
      refine (sSecOk_any s _ M.out).mono ?_
      rw [K.out]
      rintro e w1 ⟨rfl, hb1⟩
      go_wp2_with fail
      refine (l1In_yes _ _ _ _ (by omega) (by omega)).mono ?_
      rintro e w2 ⟨rfl, rfl⟩
      go_wp2_with fail
      refine (l1Who_any _ _ g0 g1).mono ?_
      rintro e w3 ⟨rfl, hb3⟩
      go_wp2_with fail
      refine (l1Ok_any (sayT s who.toNat) _ M2.out).mono ?_
      rintro e w4 ⟨rfl, hb4⟩
      go_wp2_with fail
      go_ret
      have hb13 := hb1.trans (hb3.mono hb1.size)
      exact ⟨rfl, hb13.trans (hb4.mono hb13.size)⟩

set_option maxHeartbeats 400000 in
theorem sMakRoom_any (s : ByteArray) (room : Int) (w : World) (hm : s.size ≤ maxLen) :
    Calls Try.prog 74 #[.string s, .int .i64 room] w fun e w' => e = .returned (.string (mkRoom s room)) ∧ Below w.heap.size w w' := by
  have M := hide hm
  clear hm
  cases hk : Kw.ok s with
  | false =>
    rw [show mkRoom s room = ⟨#[]⟩ by unfold mkRoom; rw [if_neg (by rw [hk]; simp)]]
    have K := hide hk
    clear hk
    go_enter Try.func74, Try.ntmps74
    go_wp2_with fail
    refine (sSecOk_any s _ M.out).mono ?_
    rw [K.out]
    rintro e w1 ⟨rfl, hb1⟩
    go_wp2_with fail
    go_ret
    exact ⟨rfl, hb1⟩
  | true =>
    have hs := (ok_facts hk).1
    by_cases hbad : room < 1 ∨ 9 < room
    · rw [show mkRoom s room = ⟨#[]⟩ by unfold mkRoom; rw [if_neg (by omega)]]
      have K := hide hk
      clear hk
      go_enter Try.func74, Try.ntmps74
      go_wp2_with fail
      refine (sSecOk_any s _ M.out).mono ?_
      rw [K.out]
      rintro e w1 ⟨rfl, hb1⟩
      go_wp2_with fail
      refine (l1In_no _ _ _ _ (by omega)).mono ?_
      rintro e w2 ⟨rfl, rfl⟩
      go_wp2_with fail
      go_ret
      exact ⟨rfl, hb1⟩
    · have g0 : 1 ≤ room := by omega
      have g1 : room ≤ 9 := by omega
      have g3 : room < 10 := by omega
      have hy : (dec room.toNat).size = 1 := by rw [dec_size, if_pos (by omega)]
      have hz := room_size s room.toNat
      rw [show mkRoom s room = only (roomT s room.toNat) by unfold mkRoom; rw [if_pos ⟨hk, g0, g1⟩, only_cap (by omega) (len_room hk (by omega) (by omega))]]
      have M2 : Hid ((roomT s room.toNat).size ≤ maxLen) := by show _ ≤ maxLen; unfold maxLen; omega
      have K := hide hk
      clear hk hz hbad
      have g4 : 0 ≤ room := by omega
      have g5 : room < 100 := by omega
      go_enter Try.func74, Try.ntmps74
      go_wp2_with fail
      refine (sSecOk_any s _ M.out).mono ?_
      rw [K.out]
      rintro e w1 ⟨rfl, hb1⟩
      go_wp2_with fail
      refine (l1In_yes _ _ _ _ (by omega) (by omega)).mono ?_
      rintro e w2 ⟨rfl, rfl⟩
      go_wp2_with fail
      refine (l1Plain_any _ _ g4 g5).mono ?_
      rintro e w3 ⟨rfl, hb3⟩
      go_wp2_with fail
      refine (l1Ok_any (roomT s room.toNat) _ M2.out).mono ?_
      rintro e w4 ⟨rfl, hb4⟩
      go_wp2_with fail
      go_ret
      have hb13 := hb1.trans (hb3.mono hb1.size)
      exact ⟨rfl, hb13.trans (hb4.mono hb13.size)⟩

#print axioms sMakSay_any
#print axioms sMakRoom_any
end Go.Proofs.Ytjmnfdfnndoffaa
/-
  Contracts of the functions that draw secrets' names and texts: each returns a text, not too long, and leaves the reader further on.
-/
namespace Go.Proofs.Ytjmnfdfnndoffaa
open Go.RowKit

/-- What drawing a text comes to. -/
def StrPost (b : Nat) (C : Code) (p K M : Nat) (w : World) (e : Ending) (w' : World) : Prop :=
  ∃ (s : ByteArray) (q : Nat), e = .returned (.string s) ∧ s.size ≤ M ∧ q ≤ p + K ∧ DrC b C q w' ∧ Ex b w w'

theorem cap_300 (x : ByteArray) : (cap x).size ≤ 300 := by
  unfold cap; split
  · assumption
  · show 0 ≤ 300; omega
theorem mkNew_300 (who n : Int) : (mkNew who n).size ≤ 300 := by
  unfold mkNew; split
  · rcases newName_sizes who.toNat n.toNat with h | h <;> omega
  · show 0 ≤ 300; omega
theorem mkNext_300 (s : ByteArray) : (mkNext s).size ≤ 300 := by unfold mkNext; split; exact cap_300 _; show 0 ≤ 300; omega
theorem mkKey_300 (s : ByteArray) : (mkKey s).size ≤ 300 := by unfold mkKey; split; exact cap_300 _; show 0 ≤ 300; omega
theorem mkEpoch_300 (s t : ByteArray) : (mkEpoch s t).size ≤ 300 := by unfold mkEpoch; split; exact cap_300 _; show 0 ≤ 300; omega
theorem mkSay_300 (s : ByteArray) (n : Int) : (mkSay s n).size ≤ 300 := by unfold mkSay; split; exact cap_300 _; show 0 ≤ 300; omega
theorem mkRoom_300 (s : ByteArray) (n : Int) : (mkRoom s n).size ≤ 300 := by unfold mkRoom; split; exact cap_300 _; show 0 ≤ 300; omega

def Kd : Nat → Nat
  | 0 => 2
  | d + 1 => 3 + 2 * Kd d

/-- The secret's name that is drawn at a depth is drawn as it must be. -/
def DrawAt (b : Nat) (C : Code) (d : Nat) : Prop := ∀ (x : Int) (p : Nat) (w : World), x = (d : Int) → DrC b C p w → p + Kd d ≤ 1000000 →
    Calls Try.prog 56 #[.pointer (some ⟨b, 0, none⟩), .int .i64 x] w (StrPost b C p (Kd d) 300 w)

set_option maxHeartbeats 1000000 in
theorem l20Secret_zero (b : Nat) (C : Code) : DrawAt b C 0 := by
  intro x p w hx h hp
  subst hx
  have hD := hide h
  have hp1 : p ≤ 1000000 := by omega
  have hp2 : p + 1 ≤ 1000000 := by unfold Kd at hp; omega
  clear h
  go_enter Try.func56, Try.ntmps56
  go_wp2_with fail
  refine (pick_any b C p 3 _ rfl _ (unhide hD) (by omega) (by omega) hp1).mono ?_
  rintro e w1 ⟨v1, rfl, hv1, d1, x1⟩
  have D1 := hide d1
  clear d1
  go_wp2_with fail
  refine (pick_any b C (p + 1) 4 _ rfl _ (unhide D1) (by omega) (by omega) hp2).mono ?_
  rintro e w2 ⟨v2, rfl, hv2, d2, x2⟩
  have D2 := hide d2
  clear d2
  go_wp2_with fail
  refine (sMakNew_any _ _ _).mono ?_
  rintro e w3 ⟨rfl, hb3⟩
  go_wp2_with fail
  go_ret
  exact ⟨_, p + 1 + 1, rfl, mkNew_300 _ _, by unfold Kd; omega, (unhide D2).below hb3, (x1.trans x2).trans (Ex.of_below b hb3)⟩

set_option maxHeartbeats 4000000 in
theorem l20Secret_succ (b : Nat) (C : Code) (d : Nat) (hd : d ≤ 10) (ih : DrawAt b C d) : DrawAt b C (d + 1) := by
  intro x p w hx h hp
  subst hx
  have hD := hide h
  have hk : Kd (d + 1) = 3 + 2 * Kd d := rfl
  have hK := hide hk
  have hp1 : p ≤ 1000000 := by omega
  have hp2 : p + 1 ≤ 1000000 := by omega
  have hp3 : p + 2 ≤ 1000000 := by omega
  have hp4 : p + 2 + Kd d ≤ 1000000 := by omega
  have hp5 : p + 2 + Kd d + Kd d ≤ 1000000 := by omega
  clear h hk hp
  go_enter Try.func56, Try.ntmps56
  go_wp2_with fail
  refine (pick_any b C p 3 _ rfl _ (unhide hD) (by omega) (by omega) hp1).mono ?_
  rintro e w1 ⟨v1, rfl, hv1, d1, x1⟩
  have D1 := hide d1
  clear d1
  by_cases hv0 : v1 = 0
  · subst hv0
    go_wp2_with fail
    refine (pick_any b C (p + 1) 3 _ rfl _ (unhide D1) (by omega) (by omega) hp2).mono ?_
    rintro e w2 ⟨v2, rfl, hv2, d2, x2⟩
    have D2 := hide d2
    clear d2
    go_wp2_with fail
    refine (pick_any b C (p + 1 + 1) 4 _ rfl _ (unhide D2) (by omega) (by omega) hp3).mono ?_
    rintro e w3 ⟨v3, rfl, hv3, d3, x3⟩
    have D3 := hide d3
    clear d3
    go_wp2_with fail
    refine (sMakNew_any _ _ _).mono ?_
    rintro e w4 ⟨rfl, hb4⟩
    go_wp2_with fail
    go_ret
    exact ⟨_, p + 1 + 1 + 1, rfl, mkNew_300 _ _, by rw [hK.out]; omega, (unhide D3).below hb4, ((x1.trans x2).trans x3).trans (Ex.of_below b hb4)⟩
  have hv0' : ((v1 : Int) == 0) = false := by simp; omega
  clear hv0
  go_wp2_with fail
  refine (pick_any b C (p + 1) 6 _ rfl _ (unhide D1) (by omega) (by omega) hp2).mono ?_
  rintro e w2 ⟨v2, rfl, hv2, d2, x2⟩
  have D2 := hide d2
  have x12 := x1.trans x2
  clear d2 D1 x1 x2
  by_cases hc0 : v2 = 0
  · subst hc0
    go_wp2_with fail
    refine (ih _ (p + 1 + 1) _ (by omega) (unhide D2) hp4).mono ?_
    rintro e w3 ⟨s3, q3, rfl, hs3, hq3, d3, x3⟩
    have D3 := hide d3
    have x13 := x12.trans x3
    clear d3 x3
    go_wp2_with fail
    refine (sMakNext_any s3 _ (le_maxLen (by omega))).mono ?_
    rintro e w4 ⟨rfl, hb4⟩
    go_wp2_with fail
    go_ret
    exact ⟨_, q3, rfl, mkNext_300 _, by rw [hK.out]; omega, (unhide D3).below hb4, x13.trans (Ex.of_below b hb4)⟩
  have he0 : ((v2 : Int) == 0) = false := by simp; omega
  by_cases hc1 : v2 = 1
  · subst hc1
    go_wp2_with fail
    refine (ih _ (p + 1 + 1) _ (by omega) (unhide D2) hp4).mono ?_
    rintro e w3 ⟨s3, q3, rfl, hs3, hq3, d3, x3⟩
    have D3 := hide d3
    have x13 := x12.trans x3
    clear d3 x3
    go_wp2_with fail
    refine (sMakNext_any s3 _ (le_maxLen (by omega))).mono ?_
    rintro e w4 ⟨rfl, hb4⟩
    go_wp2_with fail
    go_ret
    exact ⟨_, q3, rfl, mkNext_300 _, by rw [hK.out]; omega, (unhide D3).below hb4, x13.trans (Ex.of_below b hb4)⟩
  have he1 : ((v2 : Int) == 1) = false := by simp; omega
  by_cases hc2 : v2 = 2
  · subst hc2
    go_wp2_with fail
    refine (ih _ (p + 1 + 1) _ (by omega) (unhide D2) hp4).mono ?_
    rintro e w3 ⟨s3, q3, rfl, hs3, hq3, d3, x3⟩
    have D3 := hide d3
    have x13 := x12.trans x3
    clear d3 x3
    go_wp2_with fail
    refine (sMakKey_any s3 _ (le_maxLen (by omega))).mono ?_
    rintro e w4 ⟨rfl, hb4⟩
    go_wp2_with fail
    go_ret
    exact ⟨_, q3, rfl, mkKey_300 _, by rw [hK.out]; omega, (unhide D3).below hb4, x13.trans (Ex.of_below b hb4)⟩
  have he2 : ((v2 : Int) == 2) = false := by simp; omega
  by_cases hc3 : v2 = 3
  · subst hc3
    go_wp2_with fail
    refine (ih _ (p + 1 + 1) _ (by omega) (unhide D2) hp4).mono ?_
    rintro e w3 ⟨s3, q3, rfl, hs3, hq3, d3, x3⟩
    have D3 := hide d3
    have x13 := x12.trans x3
    clear d3 x3
    go_wp2_with fail
    refine (ih _ q3 _ (by omega) (unhide D3) (by omega)).mono ?_
    rintro e w4 ⟨s4, q4, rfl, hs4, hq4, d4, x4⟩
    have D4 := hide d4
    have x14 := x13.trans x4
    clear d4 x4
    go_wp2_with fail
    refine (sMakEpoch_any s3 s4 _ (le_maxLen (by omega)) (le_maxLen (by omega))).mono ?_
    rintro e w5 ⟨rfl, hb5⟩
    go_wp2_with fail
    go_ret
    exact ⟨_, q4, rfl, mkEpoch_300 _ _, by rw [hK.out]; omega, (unhide D4).below hb5, x14.trans (Ex.of_below b hb5)⟩
  have he3 : ((v2 : Int) == 3) = false := by simp; omega
  by_cases hc4 : v2 = 4
  · subst hc4
    go_wp2_with fail
    refine (ih _ (p + 1 + 1) _ (by omega) (unhide D2) hp4).mono ?_
    rintro e w3 ⟨s3, q3, rfl, hs3, hq3, d3, x3⟩
    have D3 := hide d3
    have x13 := x12.trans x3
    clear d3 x3
    go_wp2_with fail
    refine (pick_any b C q3 8 _ rfl _ (unhide D3) (by omega) (by omega) (by omega)).mono ?_
    rintro e w4 ⟨v4, rfl, hv4, d4, x4⟩
    have D4 := hide d4
    have x14 := x13.trans x4
    clear d4 x4
    go_wp2_with fail
    refine (sMakSay_any s3 _ _ (le_maxLen (by omega))).mono ?_
    rintro e w5 ⟨rfl, hb5⟩
    go_wp2_with fail
    go_ret
    exact ⟨_, q3 + 1, rfl, mkSay_300 _ _, by rw [hK.out]; omega, (unhide D4).below hb5, x14.trans (Ex.of_below b hb5)⟩
  have he4 : ((v2 : Int) == 4) = false := by simp; omega
  clear hc0 hc1 hc2 hc3 hc4
  go_wp2_with fail
  refine (ih _ (p + 1 + 1) _ (by omega) (unhide D2) hp4).mono ?_
  rintro e w3 ⟨s3, q3, rfl, hs3, hq3, d3, x3⟩
  have D3 := hide d3
  have x13 := x12.trans x3
  clear d3 x3
  go_wp2_with fail
  refine (pick_any b C q3 9 _ rfl _ (unhide D3) (by omega) (by omega) (by omega)).mono ?_
  rintro e w4 ⟨v4, rfl, hv4, d4, x4⟩
  have D4 := hide d4
  have x14 := x13.trans x4
  clear d4 x4
  go_wp2_with fail
  refine (sMakRoom_any s3 _ _ (le_maxLen (by omega))).mono ?_
  rintro e w5 ⟨rfl, hb5⟩
  go_wp2_with fail
  go_ret
  exact ⟨_, q3 + 1, rfl, mkRoom_300 _ _, by rw [hK.out]; omega, (unhide D4).below hb5, x14.trans (Ex.of_below b hb5)⟩

theorem l20Secret_any (b : Nat) (C : Code) : ∀ d, d ≤ 4 → DrawAt b C d := by
  intro d
  induction d with
  | zero => intro _; exact l20Secret_zero b C
  | succ d ih => intro h; exact l20Secret_succ b C d (by omega) (ih (by omega))
#print axioms l20Secret_any
end Go.Proofs.Ytjmnfdfnndoffaa
/-
  What a reader is opened with: l20Open.
-/
namespace Go.Proofs.Ytjmnfdfnndoffaa
open Go.RowKit

theorem below_lt {w : World} {p : Addr} {v : Value} (h : w.cell? p = some v) : p.block < w.heap.size := by
  apply Classical.byContradiction
  intro hn
  have : w.heap[p.block]? = none := Array.getElem?_eq_none (by omega)
  simp [World.cell?, this] at h

set_option maxHeartbeats 1000000 in
theorem l20Open_any (a : Option Addr) (len cap : Nat) (zs : List Int) (w : World) (h : IsRow .u8 w a len cap zs) :
    Calls Try.prog 24 #[.slice a len cap] w fun e w' => ∃ C, e = .returned (.pointer (some ⟨w.heap.size, 0, none⟩)) ∧ DrC w.heap.size C 0 w' ∧ Below w.heap.size w w' := by
  rcases h with ⟨rfl, rfl, rfl, rfl⟩ | ⟨x, rfl, hl, hm, hz, hc, hw⟩
  · go_enter Try.func24, Try.ntmps24
    go_wp2_with fail
    go_ret
    refine ⟨⟨none, 0, 0, fun _ => 0⟩, rfl, ⟨by simp [go_sem], by simp [go_sem], by simp [go_sem], by simp, by simp, .inl rfl⟩, (Below.refl _ _).alloc (Nat.le_refl _) _⟩
  · have row : ∀ (n : Nat) (o : Obj), n ≤ len → n = 0 ∨ ∃ y : Addr, some x = some y ∧ y.block < w.heap.size ∧ ∀ i, i < n → (w.alloc o).cell? (y.add i) = some (.int .u8 (zs.getD i 0)) ∧ 0 ≤ zs.getD i 0 ∧ zs.getD i 0 ≤ 255 := by
      intro n o hn
      by_cases h0 : n = 0
      · exact .inl h0
      · refine .inr ⟨x, rfl, ?_, fun i hi => ?_⟩
        · have := below_lt (hc 0 (by omega))
          rwa [add_block] at this
        · have hci := hc i (by omega)
          have hlt := below_lt hci
          refine ⟨?_, ?_⟩
          · rw [World.cell?_of_block (w := w) (Below.heap_alloc w o _ hlt)]; exact hci
          · have hwi := hw (zs.getD i 0) (by rw [List.getD_eq_getElem?_getD, List.getElem?_eq_getElem (by omega)]; simp)
            exact bounds_u8 hwi
    unfold maxLen at hm
    by_cases hbig : len ≤ 2000
    · have hd : decide ((2000 : Int) < (len : Int)) = false := by simp; omega
      have R := hide (row len)
      clear row hc hw
      go_enter Try.func24, Try.ntmps24
      go_wp2_with fail
      go_ret
      exact ⟨⟨some x, len, cap, fun i => zs.getD i 0⟩, rfl, ⟨by simp [go_sem], by simp [go_sem], by simp [go_sem], by simp, hbig, unhide R _ (Nat.le_refl _)⟩, (Below.refl _ _).alloc (Nat.le_refl _) _⟩
    · have hd : (2000 : Int) < (len : Int) := by omega
      have hd2 : (2000 : Int) ≤ (cap : Int) := by omega
      have R := hide (row 2000)
      clear row hc hw
      go_enter Try.func24, Try.ntmps24
      go_wp2_with fail
      go_ret
      exact ⟨⟨some x, 2000, cap, fun i => zs.getD i 0⟩, rfl, ⟨by simp [go_sem], by simp [go_sem], by simp [go_sem], by simp, by simp, unhide R _ (by omega)⟩, (Below.refl _ _).alloc (Nat.le_refl _) _⟩

end Go.Proofs.Ytjmnfdfnndoffaa
/-
  One in so many: odd.
-/
namespace Go.Proofs.Ytjmnfdfnndoffaa
open Go.RowKit

set_option maxHeartbeats 400000 in
theorem odd_any (b : Nat) (C : Code) (p n : Nat) (m : Int) (hm : m = (n : Int)) (w : World) (h : DrC b C p w) (hn : 1 ≤ n) (hn2 : n ≤ 1000) (hp : p ≤ 1000000) :
    Calls Try.prog 50 #[.pointer (some ⟨b, 0, none⟩), .int .i64 m] w fun e w' => ∃ c : Bool, e = .returned (.bool c) ∧ DrC b C (p + 1) w' ∧ Ex b w w' := by
  subst hm
  have hD := hide h
  clear h
  go_enter Try.func50, Try.ntmps50
  go_wp2_with fail
  refine (pick_any b C p n _ rfl _ (unhide hD) hn hn2 hp).mono ?_
  rintro e w1 ⟨v, rfl, hv, d1, x1⟩
  have D1 := hide d1
  clear d1
  go_wp2_with fail
  go_ret
  exact ⟨_, rfl, unhide D1, x1⟩
#print axioms pick_any
#print axioms odd_any
end Go.Proofs.Ytjmnfdfnndoffaa
