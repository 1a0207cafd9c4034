/-
  The specification's FraOk.
-/
import Derived.Test.YtgdhlnfigcaepaaFnFraOkB4
import Derived.Test.YtgdhlnfigcaepaaFnFraOkB5
namespace Go.Proofs.Ytgdhlnfigcaepaa
open Go.RowKit

set_option maxRecDepth 100000 in
set_option maxHeartbeats 4000000 in
theorem sFraOk_any (f : Fra) (w : World) (hm : f.key.size ≤ maxLen) :
    Calls Try.prog 15 #[.agg f.cells] w fun e w' => e = .returned (.bool (fraOk f)) ∧ Below w.heap.size w w' := by
  have HE : Hid (fraOk f = _) := fraOk_eq f
  obtain ⟨fr, key, n, text⟩ := f
  simp only at hm HE ⊢
  have M := hide hm
  clear hm
  obtain ⟨r, hr⟩ : ∃ r, fraOk ⟨fr, key, n, text⟩ = r := ⟨_, rfl⟩
  rw [hr] at HE ⊢
  clear hr
  have A := hide (Blk.new w 27 (fraC fr key n text))
  have HB : Hid (Below w.heap.size w (w.alloc (.cells (fraC fr key n text) 27))) := (Below.refl _ _).alloc (Nat.le_refl _) _
  go_enter Try.func15, Try.ntmps15
  go_wp2_with fail
  generalize w.alloc (.cells (fraC fr key n text) 27) = W0 at *
  replace A := hide ((unhide A).drew)
  replace HB : Hid (Below w.heap.size w W0.drew) := HB.out.drew
  obtain ⟨b0, hb0⟩ : ∃ b, inB 0 7 fr = b := ⟨_, rfl⟩
  rw [hb0] at HE
  have H0 := hide hb0
  clear hb0
  cases b0 with
  | false =>
    have HF : Hid (r = false) := by show _ = _; rw [HE.out]; simp
    clear HE
    refine wp_region_later (by kernel_rfl) ?_
    refine later_take (i := 0) (d := 3) (v := ?_) (by kernel_rfl) (by kernel_rfl) (by kernel_rfl) (by kernel_rfl) (fun _ _ _ h => h) (fun oi hoi => ?_) ?_
    rotate_left
    · simp at hoi
      subst hoi
      refine ⟨by rfl, fun w' hw' => ?_⟩
      go_simp
      all_goals rfl
    try simp only [Act.put, List.setIfInBounds_toArray, List.set_cons_zero, List.set_cons_succ]
    refine later_take (i := 1) (d := 4) (v := ?_) (by kernel_rfl) (by kernel_rfl) (by kernel_rfl) (by kernel_rfl) (fun _ _ _ h => h) (fun oi hoi => ?_) ?_
    rotate_left
    · simp at hoi
      subst hoi
      refine ⟨by rfl, fun w' hw' => ?_⟩
      have hx := Blk.below (unhide A) hw'
      have x0 := hx.cell 0
      simp only [List.getElem?_toArray, List.getElem?_cons_zero] at x0
      go_simp
      all_goals rfl
    try simp only [Act.put, List.setIfInBounds_toArray, List.set_cons_zero, List.set_cons_succ]
    refine later_one (i := 2) (by kernel_rfl) (fun oi K hoi hK => ?_)
    simp at hoi
    subst hoi
    refine ⟨by rfl, ?_⟩
    go_simp
    refine (l1In_any fr 0 7 _).mono ?_
    rw [H0.out]
    rintro e wz ⟨rfl, rfl⟩
    go_simp
    refine hK.out _ _ (Below.refl _ _) ?_
    clear hK
    try simp only [Act.put, List.setIfInBounds_toArray, List.set_cons_zero, List.set_cons_succ]
    refine later_take (i := 3) (d := 6) (v := ?_) (by kernel_rfl) (by kernel_rfl) (by kernel_rfl) (by kernel_rfl) (fun _ _ _ h => h) (fun oi hoi => ?_) ?_
    rotate_left
    · simp at hoi
      subst hoi
      refine ⟨by rfl, fun w' hw' => ?_⟩
      go_simp
      all_goals rfl
    try simp only [Act.put, List.setIfInBounds_toArray, List.set_cons_zero, List.set_cons_succ]
    refine later_skip (i := 4) (d := 7) (by kernel_rfl) (by kernel_rfl) (by kernel_rfl) (by kernel_rfl) (fun _ _ _ h => h) (by rfl) ?_
    try simp only [Act.put, List.setIfInBounds_toArray, List.set_cons_zero, List.set_cons_succ]
    refine later_skip (i := 5) (d := 8) (by kernel_rfl) (by kernel_rfl) (by kernel_rfl) (by kernel_rfl) (fun _ _ _ h => h) (by rfl) ?_
    try simp only [Act.put, List.setIfInBounds_toArray, List.set_cons_zero, List.set_cons_succ]
    refine later_skip (i := 6) (d := 9) (by kernel_rfl) (by kernel_rfl) (by kernel_rfl) (by kernel_rfl) (fun _ _ _ h => h) (by rfl) ?_
    try simp only [Act.put, List.setIfInBounds_toArray, List.set_cons_zero, List.set_cons_succ]
    refine later_take (i := 7) (d := 10) (v := ?_) (by kernel_rfl) (by kernel_rfl) (by kernel_rfl) (by kernel_rfl) (fun _ _ _ h => h) (fun oi hoi => ?_) ?_
    rotate_left
    · simp at hoi
      subst hoi
      refine ⟨by rfl, fun w' hw' => ?_⟩
      go_simp
      all_goals rfl
    try simp only [Act.put, List.setIfInBounds_toArray, List.set_cons_zero, List.set_cons_succ]
    refine later_take (i := 8) (d := 11) (v := ?_) (by kernel_rfl) (by kernel_rfl) (by kernel_rfl) (by kernel_rfl) (fun _ _ _ h => h) (fun oi hoi => ?_) ?_
    rotate_left
    · simp at hoi
      subst hoi
      refine ⟨by rfl, fun w' hw' => ?_⟩
      go_simp
      all_goals rfl
    try simp only [Act.put, List.setIfInBounds_toArray, List.set_cons_zero, List.set_cons_succ]
    refine later_skip (i := 9) (d := 12) (by kernel_rfl) (by kernel_rfl) (by kernel_rfl) (by kernel_rfl) (fun _ _ _ h => h) (by rfl) ?_
    try simp only [Act.put, List.setIfInBounds_toArray, List.set_cons_zero, List.set_cons_succ]
    refine later_skip (i := 10) (d := 13) (by kernel_rfl) (by kernel_rfl) (by kernel_rfl) (by kernel_rfl) (fun _ _ _ h => h) (by rfl) ?_
    try simp only [Act.put, List.setIfInBounds_toArray, List.set_cons_zero, List.set_cons_succ]
    refine later_skip (i := 11) (d := 14) (by kernel_rfl) (by kernel_rfl) (by kernel_rfl) (by kernel_rfl) (fun _ _ _ h => h) (by rfl) ?_
    try simp only [Act.put, List.setIfInBounds_toArray, List.set_cons_zero, List.set_cons_succ]
    refine later_skip (i := 12) (d := 15) (by kernel_rfl) (by kernel_rfl) (by kernel_rfl) (by kernel_rfl) (fun _ _ _ h => h) (by rfl) ?_
    try simp only [Act.put, List.setIfInBounds_toArray, List.set_cons_zero, List.set_cons_succ]
    refine later_skip (i := 13) (d := 16) (by kernel_rfl) (by kernel_rfl) (by kernel_rfl) (by kernel_rfl) (fun _ _ _ h => h) (by rfl) ?_
    try simp only [Act.put, List.setIfInBounds_toArray, List.set_cons_zero, List.set_cons_succ]
    refine later_take (i := 14) (d := 17) (v := ?_) (by kernel_rfl) (by kernel_rfl) (by kernel_rfl) (by kernel_rfl) (fun _ _ _ h => h) (fun oi hoi => ?_) ?_
    rotate_left
    · simp at hoi
      subst hoi
      refine ⟨by rfl, fun w' hw' => ?_⟩
      go_simp
      all_goals rfl
    try simp only [Act.put, List.setIfInBounds_toArray, List.set_cons_zero, List.set_cons_succ]
    refine later_take (i := 15) (d := 18) (v := ?_) (by kernel_rfl) (by kernel_rfl) (by kernel_rfl) (by kernel_rfl) (fun _ _ _ h => h) (fun oi hoi => ?_) ?_
    rotate_left
    · simp at hoi
      subst hoi
      refine ⟨by rfl, fun w' hw' => ?_⟩
      go_simp
      all_goals rfl
    try simp only [Act.put, List.setIfInBounds_toArray, List.set_cons_zero, List.set_cons_succ]
    refine later_skip (i := 16) (d := 19) (by kernel_rfl) (by kernel_rfl) (by kernel_rfl) (by kernel_rfl) (fun _ _ _ h => h) (by rfl) ?_
    try simp only [Act.put, List.setIfInBounds_toArray, List.set_cons_zero, List.set_cons_succ]
    refine later_skip (i := 17) (d := 20) (by kernel_rfl) (by kernel_rfl) (by kernel_rfl) (by kernel_rfl) (fun _ _ _ h => h) (by rfl) ?_
    try simp only [Act.put, List.setIfInBounds_toArray, List.set_cons_zero, List.set_cons_succ]
    refine later_skip (i := 18) (d := 21) (by kernel_rfl) (by kernel_rfl) (by kernel_rfl) (by kernel_rfl) (fun _ _ _ h => h) (by rfl) ?_
    try simp only [Act.put, List.setIfInBounds_toArray, List.set_cons_zero, List.set_cons_succ]
    refine later_skip (i := 19) (d := 22) (by kernel_rfl) (by kernel_rfl) (by kernel_rfl) (by kernel_rfl) (fun _ _ _ h => h) (by rfl) ?_
    try simp only [Act.put, List.setIfInBounds_toArray, List.set_cons_zero, List.set_cons_succ]
    refine later_skip (i := 20) (d := 23) (by kernel_rfl) (by kernel_rfl) (by kernel_rfl) (by kernel_rfl) (fun _ _ _ h => h) (by rfl) ?_
    try simp only [Act.put, List.setIfInBounds_toArray, List.set_cons_zero, List.set_cons_succ]
    refine later_skip (i := 21) (d := 24) (by kernel_rfl) (by kernel_rfl) (by kernel_rfl) (by kernel_rfl) (fun _ _ _ h => h) (by rfl) ?_
    try simp only [Act.put, List.setIfInBounds_toArray, List.set_cons_zero, List.set_cons_succ]
    refine later_skip (i := 22) (d := 25) (by kernel_rfl) (by kernel_rfl) (by kernel_rfl) (by kernel_rfl) (fun _ _ _ h => h) (by rfl) ?_
    try simp only [Act.put, List.setIfInBounds_toArray, List.set_cons_zero, List.set_cons_succ]
    refine later_take (i := 23) (d := 26) (v := ?_) (by kernel_rfl) (by kernel_rfl) (by kernel_rfl) (by kernel_rfl) (fun _ _ _ h => h) (fun oi hoi => ?_) ?_
    rotate_left
    · simp at hoi
      subst hoi
      refine ⟨by rfl, fun w' hw' => ?_⟩
      go_simp
      all_goals rfl
    try simp only [Act.put, List.setIfInBounds_toArray, List.set_cons_zero, List.set_cons_succ]
    refine later_take (i := 24) (d := 27) (v := ?_) (by kernel_rfl) (by kernel_rfl) (by kernel_rfl) (by kernel_rfl) (fun _ _ _ h => h) (fun oi hoi => ?_) ?_
    rotate_left
    · simp at hoi
      subst hoi
      refine ⟨by rfl, fun w' hw' => ?_⟩
      go_simp
      all_goals rfl
    try simp only [Act.put, List.setIfInBounds_toArray, List.set_cons_zero, List.set_cons_succ]
    refine later_skip (i := 25) (d := 28) (by kernel_rfl) (by kernel_rfl) (by kernel_rfl) (by kernel_rfl) (fun _ _ _ h => h) (by rfl) ?_
    try simp only [Act.put, List.setIfInBounds_toArray, List.set_cons_zero, List.set_cons_succ]
    refine later_skip (i := 26) (d := 29) (by kernel_rfl) (by kernel_rfl) (by kernel_rfl) (by kernel_rfl) (fun _ _ _ h => h) (by rfl) ?_
    try simp only [Act.put, List.setIfInBounds_toArray, List.set_cons_zero, List.set_cons_succ]
    refine later_skip (i := 27) (d := 30) (by kernel_rfl) (by kernel_rfl) (by kernel_rfl) (by kernel_rfl) (fun _ _ _ h => h) (by rfl) ?_
    try simp only [Act.put, List.setIfInBounds_toArray, List.set_cons_zero, List.set_cons_succ]
    refine later_take (i := 28) (d := 31) (v := ?_) (by kernel_rfl) (by kernel_rfl) (by kernel_rfl) (by kernel_rfl) (fun _ _ _ h => h) (fun oi hoi => ?_) ?_
    rotate_left
    · simp at hoi
      subst hoi
      refine ⟨by rfl, fun w' hw' => ?_⟩
      go_simp
      all_goals rfl
    try simp only [Act.put, List.setIfInBounds_toArray, List.set_cons_zero, List.set_cons_succ]
    refine later_take (i := 29) (d := 32) (v := ?_) (by kernel_rfl) (by kernel_rfl) (by kernel_rfl) (by kernel_rfl) (fun _ _ _ h => h) (fun oi hoi => ?_) ?_
    rotate_left
    · simp at hoi
      subst hoi
      refine ⟨by rfl, fun w' hw' => ?_⟩
      go_simp
      all_goals rfl
    try simp only [Act.put, List.setIfInBounds_toArray, List.set_cons_zero, List.set_cons_succ]
    refine later_skip (i := 30) (d := 33) (by kernel_rfl) (by kernel_rfl) (by kernel_rfl) (by kernel_rfl) (fun _ _ _ h => h) (by rfl) ?_
    try simp only [Act.put, List.setIfInBounds_toArray, List.set_cons_zero, List.set_cons_succ]
    refine later_skip (i := 31) (d := 34) (by kernel_rfl) (by kernel_rfl) (by kernel_rfl) (by kernel_rfl) (fun _ _ _ h => h) (by rfl) ?_
    try simp only [Act.put, List.setIfInBounds_toArray, List.set_cons_zero, List.set_cons_succ]
    refine later_skip (i := 32) (d := 35) (by kernel_rfl) (by kernel_rfl) (by kernel_rfl) (by kernel_rfl) (fun _ _ _ h => h) (by rfl) ?_
    try simp only [Act.put, List.setIfInBounds_toArray, List.set_cons_zero, List.set_cons_succ]
    refine later_take (i := 33) (d := 36) (v := ?_) (by kernel_rfl) (by kernel_rfl) (by kernel_rfl) (by kernel_rfl) (fun _ _ _ h => h) (fun oi hoi => ?_) ?_
    rotate_left
    · simp at hoi
      subst hoi
      refine ⟨by rfl, fun w' hw' => ?_⟩
      go_simp
      all_goals rfl
    try simp only [Act.put, List.setIfInBounds_toArray, List.set_cons_zero, List.set_cons_succ]
    refine later_take (i := 34) (d := 2) (v := ?_) (by kernel_rfl) (by kernel_rfl) (by kernel_rfl) (by kernel_rfl) (fun _ _ _ h => h) (fun oi hoi => ?_) ?_
    rotate_left
    · simp at hoi
      subst hoi
      refine ⟨by rfl, fun w' hw' => ?_⟩
      go_simp
      all_goals rfl
    try simp only [Act.put, List.setIfInBounds_toArray, List.set_cons_zero, List.set_cons_succ]
    refine later_done (by kernel_rfl) ?_ _
    go_wp2_with fail
    go_ret
    exact ⟨ret_bool' HF.out.symm, unhide HB⟩
  | true =>
    simp only [Bool.true_and] at HE
    obtain ⟨b1, hb1⟩ : ∃ b, Kw.ok key = b := ⟨_, rfl⟩
    rw [hb1] at HE
    have H1 := hide hb1
    clear hb1
    cases b1 with
    | false =>
      have HF : Hid (r = false) := by show _ = _; rw [HE.out]; simp
      clear HE
      refine wp_region_later (by kernel_rfl) ?_
      refine later_take (i := 0) (d := 3) (v := ?_) (by kernel_rfl) (by kernel_rfl) (by kernel_rfl) (by kernel_rfl) (fun _ _ _ h => h) (fun oi hoi => ?_) ?_
      rotate_left
      · simp at hoi
        subst hoi
        refine ⟨by rfl, fun w' hw' => ?_⟩
        go_simp
        all_goals rfl
      try simp only [Act.put, List.setIfInBounds_toArray, List.set_cons_zero, List.set_cons_succ]
      refine later_take (i := 1) (d := 4) (v := ?_) (by kernel_rfl) (by kernel_rfl) (by kernel_rfl) (by kernel_rfl) (fun _ _ _ h => h) (fun oi hoi => ?_) ?_
      rotate_left
      · simp at hoi
        subst hoi
        refine ⟨by rfl, fun w' hw' => ?_⟩
        have hx := Blk.below (unhide A) hw'
        have x0 := hx.cell 0
        simp only [List.getElem?_toArray, List.getElem?_cons_zero] at x0
        go_simp
        all_goals rfl
      try simp only [Act.put, List.setIfInBounds_toArray, List.set_cons_zero, List.set_cons_succ]
      refine later_one (i := 2) (by kernel_rfl) (fun oi K hoi hK => ?_)
      simp at hoi
      subst hoi
      refine ⟨by rfl, ?_⟩
      go_simp
      refine (l1In_any fr 0 7 _).mono ?_
      rw [H0.out]
      rintro e wz ⟨rfl, rfl⟩
      go_simp
      refine hK.out _ _ (Below.refl _ _) ?_
      clear hK
      try simp only [Act.put, List.setIfInBounds_toArray, List.set_cons_zero, List.set_cons_succ]
      refine later_take (i := 3) (d := 6) (v := ?_) (by kernel_rfl) (by kernel_rfl) (by kernel_rfl) (by kernel_rfl) (fun _ _ _ h => h) (fun oi hoi => ?_) ?_
      rotate_left
      · simp at hoi
        subst hoi
        refine ⟨by rfl, fun w' hw' => ?_⟩
        go_simp
        all_goals rfl
      try simp only [Act.put, List.setIfInBounds_toArray, List.set_cons_zero, List.set_cons_succ]
      refine later_take (i := 4) (d := 7) (v := ?_) (by kernel_rfl) (by kernel_rfl) (by kernel_rfl) (by kernel_rfl) (fun _ _ _ h => h) (fun oi hoi => ?_) ?_
      rotate_left
      · simp at hoi
        subst hoi
        refine ⟨by rfl, fun w' hw' => ?_⟩
        go_simp
        all_goals rfl
      try simp only [Act.put, List.setIfInBounds_toArray, List.set_cons_zero, List.set_cons_succ]
      refine later_take (i := 5) (d := 8) (v := ?_) (by kernel_rfl) (by kernel_rfl) (by kernel_rfl) (by kernel_rfl) (fun _ _ _ h => h) (fun oi hoi => ?_) ?_
      rotate_left
      · simp at hoi
        subst hoi
        refine ⟨by rfl, fun w' hw' => ?_⟩
        have hx := Blk.below (unhide A) hw'
        have x1 := hx.cell 1
        simp only [List.getElem?_toArray, List.getElem?_cons_succ, List.getElem?_cons_zero] at x1
        go_simp
        all_goals rfl
      try simp only [Act.put, List.setIfInBounds_toArray, List.set_cons_zero, List.set_cons_succ]
      refine later_one (i := 6) (by kernel_rfl) (fun oi K hoi hK => ?_)
      simp at hoi
      subst hoi
      refine ⟨by rfl, ?_⟩
      go_simp
      refine (sSecOk_any key _ M.out).mono ?_
      rw [H1.out]
      rintro e w1 ⟨rfl, hb⟩
      go_simp
      refine hK.out _ _ hb ?_
      clear hK
      replace A := hide ((unhide A).below hb)
      replace HB := hide (HB.out.trans (hb.mono HB.out.size))
      clear hb
      try simp only [Act.put, List.setIfInBounds_toArray, List.set_cons_zero, List.set_cons_succ]
      refine later_take (i := 7) (d := 10) (v := ?_) (by kernel_rfl) (by kernel_rfl) (by kernel_rfl) (by kernel_rfl) (fun _ _ _ h => h) (fun oi hoi => ?_) ?_
      rotate_left
      · simp at hoi
        subst hoi
        refine ⟨by rfl, fun w' hw' => ?_⟩
        go_simp
        all_goals rfl
      try simp only [Act.put, List.setIfInBounds_toArray, List.set_cons_zero, List.set_cons_succ]
      refine later_take (i := 8) (d := 11) (v := ?_) (by kernel_rfl) (by kernel_rfl) (by kernel_rfl) (by kernel_rfl) (fun _ _ _ h => h) (fun oi hoi => ?_) ?_
      rotate_left
      · simp at hoi
        subst hoi
        refine ⟨by rfl, fun w' hw' => ?_⟩
        go_simp
        all_goals rfl
      try simp only [Act.put, List.setIfInBounds_toArray, List.set_cons_zero, List.set_cons_succ]
      refine later_skip (i := 9) (d := 12) (by kernel_rfl) (by kernel_rfl) (by kernel_rfl) (by kernel_rfl) (fun _ _ _ h => h) (by rfl) ?_
      try simp only [Act.put, List.setIfInBounds_toArray, List.set_cons_zero, List.set_cons_succ]
      refine later_skip (i := 10) (d := 13) (by kernel_rfl) (by kernel_rfl) (by kernel_rfl) (by kernel_rfl) (fun _ _ _ h => h) (by rfl) ?_
      try simp only [Act.put, List.setIfInBounds_toArray, List.set_cons_zero, List.set_cons_succ]
      refine later_skip (i := 11) (d := 14) (by kernel_rfl) (by kernel_rfl) (by kernel_rfl) (by kernel_rfl) (fun _ _ _ h => h) (by rfl) ?_
      try simp only [Act.put, List.setIfInBounds_toArray, List.set_cons_zero, List.set_cons_succ]
      refine later_skip (i := 12) (d := 15) (by kernel_rfl) (by kernel_rfl) (by kernel_rfl) (by kernel_rfl) (fun _ _ _ h => h) (by rfl) ?_
      try simp only [Act.put, List.setIfInBounds_toArray, List.set_cons_zero, List.set_cons_succ]
      refine later_skip (i := 13) (d := 16) (by kernel_rfl) (by kernel_rfl) (by kernel_rfl) (by kernel_rfl) (fun _ _ _ h => h) (by rfl) ?_
      try simp only [Act.put, List.setIfInBounds_toArray, List.set_cons_zero, List.set_cons_succ]
      refine later_take (i := 14) (d := 17) (v := ?_) (by kernel_rfl) (by kernel_rfl) (by kernel_rfl) (by kernel_rfl) (fun _ _ _ h => h) (fun oi hoi => ?_) ?_
      rotate_left
      · simp at hoi
        subst hoi
        refine ⟨by rfl, fun w' hw' => ?_⟩
        go_simp
        all_goals rfl
      try simp only [Act.put, List.setIfInBounds_toArray, List.set_cons_zero, List.set_cons_succ]
      refine later_take (i := 15) (d := 18) (v := ?_) (by kernel_rfl) (by kernel_rfl) (by kernel_rfl) (by kernel_rfl) (fun _ _ _ h => h) (fun oi hoi => ?_) ?_
      rotate_left
      · simp at hoi
        subst hoi
        refine ⟨by rfl, fun w' hw' => ?_⟩
        go_simp
        all_goals rfl
      try simp only [Act.put, List.setIfInBounds_toArray, List.set_cons_zero, List.set_cons_succ]
      refine later_skip (i := 16) (d := 19) (by kernel_rfl) (by kernel_rfl) (by kernel_rfl) (by kernel_rfl) (fun _ _ _ h => h) (by rfl) ?_
      try simp only [Act.put, List.setIfInBounds_toArray, List.set_cons_zero, List.set_cons_succ]
      refine later_skip (i := 17) (d := 20) (by kernel_rfl) (by kernel_rfl) (by kernel_rfl) (by kernel_rfl) (fun _ _ _ h => h) (by rfl) ?_
      try simp only [Act.put, List.setIfInBounds_toArray, List.set_cons_zero, List.set_cons_succ]
      refine later_skip (i := 18) (d := 21) (by kernel_rfl) (by kernel_rfl) (by kernel_rfl) (by kernel_rfl) (fun _ _ _ h => h) (by rfl) ?_
      try simp only [Act.put, List.setIfInBounds_toArray, List.set_cons_zero, List.set_cons_succ]
      refine later_skip (i := 19) (d := 22) (by kernel_rfl) (by kernel_rfl) (by kernel_rfl) (by kernel_rfl) (fun _ _ _ h => h) (by rfl) ?_
      try simp only [Act.put, List.setIfInBounds_toArray, List.set_cons_zero, List.set_cons_succ]
      refine later_skip (i := 20) (d := 23) (by kernel_rfl) (by kernel_rfl) (by kernel_rfl) (by kernel_rfl) (fun _ _ _ h => h) (by rfl) ?_
      try simp only [Act.put, List.setIfInBounds_toArray, List.set_cons_zero, List.set_cons_succ]
      refine later_skip (i := 21) (d := 24) (by kernel_rfl) (by kernel_rfl) (by kernel_rfl) (by kernel_rfl) (fun _ _ _ h => h) (by rfl) ?_
      try simp only [Act.put, List.setIfInBounds_toArray, List.set_cons_zero, List.set_cons_succ]
      refine later_skip (i := 22) (d := 25) (by kernel_rfl) (by kernel_rfl) (by kernel_rfl) (by kernel_rfl) (fun _ _ _ h => h) (by rfl) ?_
      try simp only [Act.put, List.setIfInBounds_toArray, List.set_cons_zero, List.set_cons_succ]
      refine later_take (i := 23) (d := 26) (v := ?_) (by kernel_rfl) (by kernel_rfl) (by kernel_rfl) (by kernel_rfl) (fun _ _ _ h => h) (fun oi hoi => ?_) ?_
      rotate_left
      · simp at hoi
        subst hoi
        refine ⟨by rfl, fun w' hw' => ?_⟩
        go_simp
        all_goals rfl
      try simp only [Act.put, List.setIfInBounds_toArray, List.set_cons_zero, List.set_cons_succ]
      refine later_take (i := 24) (d := 27) (v := ?_) (by kernel_rfl) (by kernel_rfl) (by kernel_rfl) (by kernel_rfl) (fun _ _ _ h => h) (fun oi hoi => ?_) ?_
      rotate_left
      · simp at hoi
        subst hoi
        refine ⟨by rfl, fun w' hw' => ?_⟩
        go_simp
        all_goals rfl
      try simp only [Act.put, List.setIfInBounds_toArray, List.set_cons_zero, List.set_cons_succ]
      refine later_skip (i := 25) (d := 28) (by kernel_rfl) (by kernel_rfl) (by kernel_rfl) (by kernel_rfl) (fun _ _ _ h => h) (by rfl) ?_
      try simp only [Act.put, List.setIfInBounds_toArray, List.set_cons_zero, List.set_cons_succ]
      refine later_skip (i := 26) (d := 29) (by kernel_rfl) (by kernel_rfl) (by kernel_rfl) (by kernel_rfl) (fun _ _ _ h => h) (by rfl) ?_
      try simp only [Act.put, List.setIfInBounds_toArray, List.set_cons_zero, List.set_cons_succ]
      refine later_skip (i := 27) (d := 30) (by kernel_rfl) (by kernel_rfl) (by kernel_rfl) (by kernel_rfl) (fun _ _ _ h => h) (by rfl) ?_
      try simp only [Act.put, List.setIfInBounds_toArray, List.set_cons_zero, List.set_cons_succ]
      refine later_take (i := 28) (d := 31) (v := ?_) (by kernel_rfl) (by kernel_rfl) (by kernel_rfl) (by kernel_rfl) (fun _ _ _ h => h) (fun oi hoi => ?_) ?_
      rotate_left
      · simp at hoi
        subst hoi
        refine ⟨by rfl, fun w' hw' => ?_⟩
        go_simp
        all_goals rfl
      try simp only [Act.put, List.setIfInBounds_toArray, List.set_cons_zero, List.set_cons_succ]
      refine later_take (i := 29) (d := 32) (v := ?_) (by kernel_rfl) (by kernel_rfl) (by kernel_rfl) (by kernel_rfl) (fun _ _ _ h => h) (fun oi hoi => ?_) ?_
      rotate_left
      · simp at hoi
        subst hoi
        refine ⟨by rfl, fun w' hw' => ?_⟩
        go_simp
        all_goals rfl
      try simp only [Act.put, List.setIfInBounds_toArray, List.set_cons_zero, List.set_cons_succ]
      refine later_skip (i := 30) (d := 33) (by kernel_rfl) (by kernel_rfl) (by kernel_rfl) (by kernel_rfl) (fun _ _ _ h => h) (by rfl) ?_
      try simp only [Act.put, List.setIfInBounds_toArray, List.set_cons_zero, List.set_cons_succ]
      refine later_skip (i := 31) (d := 34) (by kernel_rfl) (by kernel_rfl) (by kernel_rfl) (by kernel_rfl) (fun _ _ _ h => h) (by rfl) ?_
      try simp only [Act.put, List.setIfInBounds_toArray, List.set_cons_zero, List.set_cons_succ]
      refine later_skip (i := 32) (d := 35) (by kernel_rfl) (by kernel_rfl) (by kernel_rfl) (by kernel_rfl) (fun _ _ _ h => h) (by rfl) ?_
      try simp only [Act.put, List.setIfInBounds_toArray, List.set_cons_zero, List.set_cons_succ]
      refine later_take (i := 33) (d := 36) (v := ?_) (by kernel_rfl) (by kernel_rfl) (by kernel_rfl) (by kernel_rfl) (fun _ _ _ h => h) (fun oi hoi => ?_) ?_
      rotate_left
      · simp at hoi
        subst hoi
        refine ⟨by rfl, fun w' hw' => ?_⟩
        go_simp
        all_goals rfl
      try simp only [Act.put, List.setIfInBounds_toArray, List.set_cons_zero, List.set_cons_succ]
      refine later_take (i := 34) (d := 2) (v := ?_) (by kernel_rfl) (by kernel_rfl) (by kernel_rfl) (by kernel_rfl) (fun _ _ _ h => h) (fun oi hoi => ?_) ?_
      rotate_left
      · simp at hoi
        subst hoi
        refine ⟨by rfl, fun w' hw' => ?_⟩
        go_simp
        all_goals rfl
      try simp only [Act.put, List.setIfInBounds_toArray, List.set_cons_zero, List.set_cons_succ]
      refine later_done (by kernel_rfl) ?_ _
      go_wp2_with fail
      go_ret
      exact ⟨ret_bool' HF.out.symm, unhide HB⟩
    | true =>
      simp only [Bool.true_and] at HE
      obtain ⟨b2, hb2⟩ : ∃ b, decide (mOp key = 5) = b := ⟨_, rfl⟩
      rw [hb2] at HE
      have H2 := hide hb2
      clear hb2
      cases b2 with
      | false =>
        have HF : Hid (r = false) := by show _ = _; rw [HE.out]; simp
        clear HE
        have hop : (mOp key == 5) = false := by simpa using H2.out
        refine wp_region_later (by kernel_rfl) ?_
        refine later_take (i := 0) (d := 3) (v := ?_) (by kernel_rfl) (by kernel_rfl) (by kernel_rfl) (by kernel_rfl) (fun _ _ _ h => h) (fun oi hoi => ?_) ?_
        rotate_left
        · simp at hoi
          subst hoi
          refine ⟨by rfl, fun w' hw' => ?_⟩
          go_simp
          all_goals rfl
        try simp only [Act.put, List.setIfInBounds_toArray, List.set_cons_zero, List.set_cons_succ]
        refine later_take (i := 1) (d := 4) (v := ?_) (by kernel_rfl) (by kernel_rfl) (by kernel_rfl) (by kernel_rfl) (fun _ _ _ h => h) (fun oi hoi => ?_) ?_
        rotate_left
        · simp at hoi
          subst hoi
          refine ⟨by rfl, fun w' hw' => ?_⟩
          have hx := Blk.below (unhide A) hw'
          have x0 := hx.cell 0
          simp only [List.getElem?_toArray, List.getElem?_cons_zero] at x0
          go_simp
          all_goals rfl
        try simp only [Act.put, List.setIfInBounds_toArray, List.set_cons_zero, List.set_cons_succ]
        refine later_one (i := 2) (by kernel_rfl) (fun oi K hoi hK => ?_)
        simp at hoi
        subst hoi
        refine ⟨by rfl, ?_⟩
        go_simp
        refine (l1In_any fr 0 7 _).mono ?_
        rw [H0.out]
        rintro e wz ⟨rfl, rfl⟩
        go_simp
        refine hK.out _ _ (Below.refl _ _) ?_
        clear hK
        try simp only [Act.put, List.setIfInBounds_toArray, List.set_cons_zero, List.set_cons_succ]
        refine later_take (i := 3) (d := 6) (v := ?_) (by kernel_rfl) (by kernel_rfl) (by kernel_rfl) (by kernel_rfl) (fun _ _ _ h => h) (fun oi hoi => ?_) ?_
        rotate_left
        · simp at hoi
          subst hoi
          refine ⟨by rfl, fun w' hw' => ?_⟩
          go_simp
          all_goals rfl
        try simp only [Act.put, List.setIfInBounds_toArray, List.set_cons_zero, List.set_cons_succ]
        refine later_take (i := 4) (d := 7) (v := ?_) (by kernel_rfl) (by kernel_rfl) (by kernel_rfl) (by kernel_rfl) (fun _ _ _ h => h) (fun oi hoi => ?_) ?_
        rotate_left
        · simp at hoi
          subst hoi
          refine ⟨by rfl, fun w' hw' => ?_⟩
          go_simp
          all_goals rfl
        try simp only [Act.put, List.setIfInBounds_toArray, List.set_cons_zero, List.set_cons_succ]
        refine later_take (i := 5) (d := 8) (v := ?_) (by kernel_rfl) (by kernel_rfl) (by kernel_rfl) (by kernel_rfl) (fun _ _ _ h => h) (fun oi hoi => ?_) ?_
        rotate_left
        · simp at hoi
          subst hoi
          refine ⟨by rfl, fun w' hw' => ?_⟩
          have hx := Blk.below (unhide A) hw'
          have x1 := hx.cell 1
          simp only [List.getElem?_toArray, List.getElem?_cons_succ, List.getElem?_cons_zero] at x1
          go_simp
          all_goals rfl
        try simp only [Act.put, List.setIfInBounds_toArray, List.set_cons_zero, List.set_cons_succ]
        refine later_one (i := 6) (by kernel_rfl) (fun oi K hoi hK => ?_)
        simp at hoi
        subst hoi
        refine ⟨by rfl, ?_⟩
        go_simp
        refine (sSecOk_any key _ M.out).mono ?_
        rw [H1.out]
        rintro e w1 ⟨rfl, hb⟩
        go_simp
        refine hK.out _ _ hb ?_
        clear hK
        replace A := hide ((unhide A).below hb)
        replace HB := hide (HB.out.trans (hb.mono HB.out.size))
        clear hb
        try simp only [Act.put, List.setIfInBounds_toArray, List.set_cons_zero, List.set_cons_succ]
        refine later_take (i := 7) (d := 10) (v := ?_) (by kernel_rfl) (by kernel_rfl) (by kernel_rfl) (by kernel_rfl) (fun _ _ _ h => h) (fun oi hoi => ?_) ?_
        rotate_left
        · simp at hoi
          subst hoi
          refine ⟨by rfl, fun w' hw' => ?_⟩
          go_simp
          all_goals rfl
        try simp only [Act.put, List.setIfInBounds_toArray, List.set_cons_zero, List.set_cons_succ]
        refine later_take (i := 8) (d := 11) (v := ?_) (by kernel_rfl) (by kernel_rfl) (by kernel_rfl) (by kernel_rfl) (fun _ _ _ h => h) (fun oi hoi => ?_) ?_
        rotate_left
        · simp at hoi
          subst hoi
          refine ⟨by rfl, fun w' hw' => ?_⟩
          go_simp
          all_goals rfl
        try simp only [Act.put, List.setIfInBounds_toArray, List.set_cons_zero, List.set_cons_succ]
        refine later_take (i := 9) (d := 12) (v := ?_) (by kernel_rfl) (by kernel_rfl) (by kernel_rfl) (by kernel_rfl) (fun _ _ _ h => h) (fun oi hoi => ?_) ?_
        rotate_left
        · simp at hoi
          subst hoi
          refine ⟨by rfl, fun w' hw' => ?_⟩
          go_simp
          all_goals rfl
        try simp only [Act.put, List.setIfInBounds_toArray, List.set_cons_zero, List.set_cons_succ]
        refine later_take (i := 10) (d := 13) (v := ?_) (by kernel_rfl) (by kernel_rfl) (by kernel_rfl) (by kernel_rfl) (fun _ _ _ h => h) (fun oi hoi => ?_) ?_
        rotate_left
        · simp at hoi
          subst hoi
          refine ⟨by rfl, fun w' hw' => ?_⟩
          have hx := Blk.below (unhide A) hw'
          have x1 := hx.cell 1
          simp only [List.getElem?_toArray, List.getElem?_cons_succ, List.getElem?_cons_zero] at x1
          go_simp
          all_goals rfl
        try simp only [Act.put, List.setIfInBounds_toArray, List.set_cons_zero, List.set_cons_succ]
        refine later_one (i := 11) (by kernel_rfl) (fun oi K hoi hK => ?_)
        simp at hoi
        subst hoi
        refine ⟨by rfl, ?_⟩
        go_simp
        refine (l1How_any key _ H1.out).mono ?_
        rw [how_field]
        rintro e w2 ⟨rfl, hb⟩
        go_simp
        refine hK.out _ _ hb ?_
        clear hK
        replace A := hide ((unhide A).below hb)
        replace HB := hide (HB.out.trans (hb.mono HB.out.size))
        clear hb
        try simp only [Act.put, List.setIfInBounds_toArray, List.set_cons_zero, List.set_cons_succ]
        refine later_take (i := 12) (d := 15) (v := ?_) (by kernel_rfl) (by kernel_rfl) (by kernel_rfl) (by kernel_rfl) (fun _ _ _ h => h) (fun oi hoi => ?_) ?_
        rotate_left
        · simp at hoi
          subst hoi
          refine ⟨by rfl, fun w' hw' => ?_⟩
          have hfl := field_op
          go_simp
          all_goals rfl
        try simp only [Act.put, List.setIfInBounds_toArray, List.set_cons_zero, List.set_cons_succ]
        refine later_take (i := 13) (d := 16) (v := ?_) (by kernel_rfl) (by kernel_rfl) (by kernel_rfl) (by kernel_rfl) (fun _ _ _ h => h) (fun oi hoi => ?_) ?_
        rotate_left
        · simp at hoi
          subst hoi
          refine ⟨by rfl, fun w' hw' => ?_⟩
          go_simp
          all_goals rfl
        try simp only [Act.put, List.setIfInBounds_toArray, List.set_cons_zero, List.set_cons_succ]
        refine later_take (i := 14) (d := 17) (v := ?_) (by kernel_rfl) (by kernel_rfl) (by kernel_rfl) (by kernel_rfl) (fun _ _ _ h => h) (fun oi hoi => ?_) ?_
        rotate_left
        · simp at hoi
          subst hoi
          refine ⟨by rfl, fun w' hw' => ?_⟩
          go_simp
          all_goals rfl
        try simp only [Act.put, List.setIfInBounds_toArray, List.set_cons_zero, List.set_cons_succ]
        refine later_take (i := 15) (d := 18) (v := ?_) (by kernel_rfl) (by kernel_rfl) (by kernel_rfl) (by kernel_rfl) (fun _ _ _ h => h) (fun oi hoi => ?_) ?_
        rotate_left
        · simp at hoi
          subst hoi
          refine ⟨by rfl, fun w' hw' => ?_⟩
          go_simp
          all_goals rfl
        try simp only [Act.put, List.setIfInBounds_toArray, List.set_cons_zero, List.set_cons_succ]
        refine later_skip (i := 16) (d := 19) (by kernel_rfl) (by kernel_rfl) (by kernel_rfl) (by kernel_rfl) (fun _ _ _ h => h) (by rfl) ?_
        try simp only [Act.put, List.setIfInBounds_toArray, List.set_cons_zero, List.set_cons_succ]
        refine later_skip (i := 17) (d := 20) (by kernel_rfl) (by kernel_rfl) (by kernel_rfl) (by kernel_rfl) (fun _ _ _ h => h) (by rfl) ?_
        try simp only [Act.put, List.setIfInBounds_toArray, List.set_cons_zero, List.set_cons_succ]
        refine later_skip (i := 18) (d := 21) (by kernel_rfl) (by kernel_rfl) (by kernel_rfl) (by kernel_rfl) (fun _ _ _ h => h) (by rfl) ?_
        try simp only [Act.put, List.setIfInBounds_toArray, List.set_cons_zero, List.set_cons_succ]
        refine later_skip (i := 19) (d := 22) (by kernel_rfl) (by kernel_rfl) (by kernel_rfl) (by kernel_rfl) (fun _ _ _ h => h) (by rfl) ?_
        try simp only [Act.put, List.setIfInBounds_toArray, List.set_cons_zero, List.set_cons_succ]
        refine later_skip (i := 20) (d := 23) (by kernel_rfl) (by kernel_rfl) (by kernel_rfl) (by kernel_rfl) (fun _ _ _ h => h) (by rfl) ?_
        try simp only [Act.put, List.setIfInBounds_toArray, List.set_cons_zero, List.set_cons_succ]
        refine later_skip (i := 21) (d := 24) (by kernel_rfl) (by kernel_rfl) (by kernel_rfl) (by kernel_rfl) (fun _ _ _ h => h) (by rfl) ?_
        try simp only [Act.put, List.setIfInBounds_toArray, List.set_cons_zero, List.set_cons_succ]
        refine later_skip (i := 22) (d := 25) (by kernel_rfl) (by kernel_rfl) (by kernel_rfl) (by kernel_rfl) (fun _ _ _ h => h) (by rfl) ?_
        try simp only [Act.put, List.setIfInBounds_toArray, List.set_cons_zero, List.set_cons_succ]
        refine later_take (i := 23) (d := 26) (v := ?_) (by kernel_rfl) (by kernel_rfl) (by kernel_rfl) (by kernel_rfl) (fun _ _ _ h => h) (fun oi hoi => ?_) ?_
        rotate_left
        · simp at hoi
          subst hoi
          refine ⟨by rfl, fun w' hw' => ?_⟩
          go_simp
          all_goals rfl
        try simp only [Act.put, List.setIfInBounds_toArray, List.set_cons_zero, List.set_cons_succ]
        refine later_take (i := 24) (d := 27) (v := ?_) (by kernel_rfl) (by kernel_rfl) (by kernel_rfl) (by kernel_rfl) (fun _ _ _ h => h) (fun oi hoi => ?_) ?_
        rotate_left
        · simp at hoi
          subst hoi
          refine ⟨by rfl, fun w' hw' => ?_⟩
          go_simp
          all_goals rfl
        try simp only [Act.put, List.setIfInBounds_toArray, List.set_cons_zero, List.set_cons_succ]
        refine later_skip (i := 25) (d := 28) (by kernel_rfl) (by kernel_rfl) (by kernel_rfl) (by kernel_rfl) (fun _ _ _ h => h) (by rfl) ?_
        try simp only [Act.put, List.setIfInBounds_toArray, List.set_cons_zero, List.set_cons_succ]
        refine later_skip (i := 26) (d := 29) (by kernel_rfl) (by kernel_rfl) (by kernel_rfl) (by kernel_rfl) (fun _ _ _ h => h) (by rfl) ?_
        try simp only [Act.put, List.setIfInBounds_toArray, List.set_cons_zero, List.set_cons_succ]
        refine later_skip (i := 27) (d := 30) (by kernel_rfl) (by kernel_rfl) (by kernel_rfl) (by kernel_rfl) (fun _ _ _ h => h) (by rfl) ?_
        try simp only [Act.put, List.setIfInBounds_toArray, List.set_cons_zero, List.set_cons_succ]
        refine later_take (i := 28) (d := 31) (v := ?_) (by kernel_rfl) (by kernel_rfl) (by kernel_rfl) (by kernel_rfl) (fun _ _ _ h => h) (fun oi hoi => ?_) ?_
        rotate_left
        · simp at hoi
          subst hoi
          refine ⟨by rfl, fun w' hw' => ?_⟩
          go_simp
          all_goals rfl
        try simp only [Act.put, List.setIfInBounds_toArray, List.set_cons_zero, List.set_cons_succ]
        refine later_take (i := 29) (d := 32) (v := ?_) (by kernel_rfl) (by kernel_rfl) (by kernel_rfl) (by kernel_rfl) (fun _ _ _ h => h) (fun oi hoi => ?_) ?_
        rotate_left
        · simp at hoi
          subst hoi
          refine ⟨by rfl, fun w' hw' => ?_⟩
          go_simp
          all_goals rfl
        try simp only [Act.put, List.setIfInBounds_toArray, List.set_cons_zero, List.set_cons_succ]
        refine later_skip (i := 30) (d := 33) (by kernel_rfl) (by kernel_rfl) (by kernel_rfl) (by kernel_rfl) (fun _ _ _ h => h) (by rfl) ?_
        try simp only [Act.put, List.setIfInBounds_toArray, List.set_cons_zero, List.set_cons_succ]
        refine later_skip (i := 31) (d := 34) (by kernel_rfl) (by kernel_rfl) (by kernel_rfl) (by kernel_rfl) (fun _ _ _ h => h) (by rfl) ?_
        try simp only [Act.put, List.setIfInBounds_toArray, List.set_cons_zero, List.set_cons_succ]
        refine later_skip (i := 32) (d := 35) (by kernel_rfl) (by kernel_rfl) (by kernel_rfl) (by kernel_rfl) (fun _ _ _ h => h) (by rfl) ?_
        try simp only [Act.put, List.setIfInBounds_toArray, List.set_cons_zero, List.set_cons_succ]
        refine later_take (i := 33) (d := 36) (v := ?_) (by kernel_rfl) (by kernel_rfl) (by kernel_rfl) (by kernel_rfl) (fun _ _ _ h => h) (fun oi hoi => ?_) ?_
        rotate_left
        · simp at hoi
          subst hoi
          refine ⟨by rfl, fun w' hw' => ?_⟩
          go_simp
          all_goals rfl
        try simp only [Act.put, List.setIfInBounds_toArray, List.set_cons_zero, List.set_cons_succ]
        refine later_take (i := 34) (d := 2) (v := ?_) (by kernel_rfl) (by kernel_rfl) (by kernel_rfl) (by kernel_rfl) (fun _ _ _ h => h) (fun oi hoi => ?_) ?_
        rotate_left
        · simp at hoi
          subst hoi
          refine ⟨by rfl, fun w' hw' => ?_⟩
          go_simp
          all_goals rfl
        try simp only [Act.put, List.setIfInBounds_toArray, List.set_cons_zero, List.set_cons_succ]
        refine later_done (by kernel_rfl) ?_ _
        go_wp2_with fail
        go_ret
        exact ⟨ret_bool' HF.out.symm, unhide HB⟩
      | true =>
        simp only [Bool.true_and] at HE
        have hop : (mOp key == 5) = true := by simpa using H2.out
        obtain ⟨b3, hb3⟩ : ∃ b, decide (mWho key = fr) = b := ⟨_, rfl⟩
        rw [hb3] at HE
        have H3 := hide hb3
        clear hb3
        cases b3 with
        | false =>
          have HF : Hid (r = false) := by show _ = _; rw [HE.out]; simp
          clear HE
          have hop : (mWho key == fr) = false := by simpa using H3.out
          refine wp_region_later (by kernel_rfl) ?_
          refine later_take (i := 0) (d := 3) (v := ?_) (by kernel_rfl) (by kernel_rfl) (by kernel_rfl) (by kernel_rfl) (fun _ _ _ h => h) (fun oi hoi => ?_) ?_
          rotate_left
          · simp at hoi
            subst hoi
            refine ⟨by rfl, fun w' hw' => ?_⟩
            go_simp
            all_goals rfl
          try simp only [Act.put, List.setIfInBounds_toArray, List.set_cons_zero, List.set_cons_succ]
          refine later_take (i := 1) (d := 4) (v := ?_) (by kernel_rfl) (by kernel_rfl) (by kernel_rfl) (by kernel_rfl) (fun _ _ _ h => h) (fun oi hoi => ?_) ?_
          rotate_left
          · simp at hoi
            subst hoi
            refine ⟨by rfl, fun w' hw' => ?_⟩
            have hx := Blk.below (unhide A) hw'
            have x0 := hx.cell 0
            simp only [List.getElem?_toArray, List.getElem?_cons_zero] at x0
            go_simp
            all_goals rfl
          try simp only [Act.put, List.setIfInBounds_toArray, List.set_cons_zero, List.set_cons_succ]
          refine later_one (i := 2) (by kernel_rfl) (fun oi K hoi hK => ?_)
          simp at hoi
          subst hoi
          refine ⟨by rfl, ?_⟩
          go_simp
          refine (l1In_any fr 0 7 _).mono ?_
          rw [H0.out]
          rintro e wz ⟨rfl, rfl⟩
          go_simp
          refine hK.out _ _ (Below.refl _ _) ?_
          clear hK
          try simp only [Act.put, List.setIfInBounds_toArray, List.set_cons_zero, List.set_cons_succ]
          refine later_take (i := 3) (d := 6) (v := ?_) (by kernel_rfl) (by kernel_rfl) (by kernel_rfl) (by kernel_rfl) (fun _ _ _ h => h) (fun oi hoi => ?_) ?_
          rotate_left
          · simp at hoi
            subst hoi
            refine ⟨by rfl, fun w' hw' => ?_⟩
            go_simp
            all_goals rfl
          try simp only [Act.put, List.setIfInBounds_toArray, List.set_cons_zero, List.set_cons_succ]
          refine later_take (i := 4) (d := 7) (v := ?_) (by kernel_rfl) (by kernel_rfl) (by kernel_rfl) (by kernel_rfl) (fun _ _ _ h => h) (fun oi hoi => ?_) ?_
          rotate_left
          · simp at hoi
            subst hoi
            refine ⟨by rfl, fun w' hw' => ?_⟩
            go_simp
            all_goals rfl
          try simp only [Act.put, List.setIfInBounds_toArray, List.set_cons_zero, List.set_cons_succ]
          refine later_take (i := 5) (d := 8) (v := ?_) (by kernel_rfl) (by kernel_rfl) (by kernel_rfl) (by kernel_rfl) (fun _ _ _ h => h) (fun oi hoi => ?_) ?_
          rotate_left
          · simp at hoi
            subst hoi
            refine ⟨by rfl, fun w' hw' => ?_⟩
            have hx := Blk.below (unhide A) hw'
            have x1 := hx.cell 1
            simp only [List.getElem?_toArray, List.getElem?_cons_succ, List.getElem?_cons_zero] at x1
            go_simp
            all_goals rfl
          try simp only [Act.put, List.setIfInBounds_toArray, List.set_cons_zero, List.set_cons_succ]
          refine later_one (i := 6) (by kernel_rfl) (fun oi K hoi hK => ?_)
          simp at hoi
          subst hoi
          refine ⟨by rfl, ?_⟩
          go_simp
          refine (sSecOk_any key _ M.out).mono ?_
          rw [H1.out]
          rintro e w1 ⟨rfl, hb⟩
          go_simp
          refine hK.out _ _ hb ?_
          clear hK
          replace A := hide ((unhide A).below hb)
          replace HB := hide (HB.out.trans (hb.mono HB.out.size))
          clear hb
          try simp only [Act.put, List.setIfInBounds_toArray, List.set_cons_zero, List.set_cons_succ]
          refine later_take (i := 7) (d := 10) (v := ?_) (by kernel_rfl) (by kernel_rfl) (by kernel_rfl) (by kernel_rfl) (fun _ _ _ h => h) (fun oi hoi => ?_) ?_
          rotate_left
          · simp at hoi
            subst hoi
            refine ⟨by rfl, fun w' hw' => ?_⟩
            go_simp
            all_goals rfl
          try simp only [Act.put, List.setIfInBounds_toArray, List.set_cons_zero, List.set_cons_succ]
          refine later_take (i := 8) (d := 11) (v := ?_) (by kernel_rfl) (by kernel_rfl) (by kernel_rfl) (by kernel_rfl) (fun _ _ _ h => h) (fun oi hoi => ?_) ?_
          rotate_left
          · simp at hoi
            subst hoi
            refine ⟨by rfl, fun w' hw' => ?_⟩
            go_simp
            all_goals rfl
          try simp only [Act.put, List.setIfInBounds_toArray, List.set_cons_zero, List.set_cons_succ]
          refine later_take (i := 9) (d := 12) (v := ?_) (by kernel_rfl) (by kernel_rfl) (by kernel_rfl) (by kernel_rfl) (fun _ _ _ h => h) (fun oi hoi => ?_) ?_
          rotate_left
          · simp at hoi
            subst hoi
            refine ⟨by rfl, fun w' hw' => ?_⟩
            go_simp
            all_goals rfl
          try simp only [Act.put, List.setIfInBounds_toArray, List.set_cons_zero, List.set_cons_succ]
          refine later_take (i := 10) (d := 13) (v := ?_) (by kernel_rfl) (by kernel_rfl) (by kernel_rfl) (by kernel_rfl) (fun _ _ _ h => h) (fun oi hoi => ?_) ?_
          rotate_left
          · simp at hoi
            subst hoi
            refine ⟨by rfl, fun w' hw' => ?_⟩
            have hx := Blk.below (unhide A) hw'
            have x1 := hx.cell 1
            simp only [List.getElem?_toArray, List.getElem?_cons_succ, List.getElem?_cons_zero] at x1
            go_simp
            all_goals rfl
          try simp only [Act.put, List.setIfInBounds_toArray, List.set_cons_zero, List.set_cons_succ]
          refine later_one (i := 11) (by kernel_rfl) (fun oi K hoi hK => ?_)
          simp at hoi
          subst hoi
          refine ⟨by rfl, ?_⟩
          go_simp
          refine (l1How_any key _ H1.out).mono ?_
          rw [how_field]
          rintro e w2 ⟨rfl, hb⟩
          go_simp
          refine hK.out _ _ hb ?_
          clear hK
          replace A := hide ((unhide A).below hb)
          replace HB := hide (HB.out.trans (hb.mono HB.out.size))
          clear hb
          try simp only [Act.put, List.setIfInBounds_toArray, List.set_cons_zero, List.set_cons_succ]
          refine later_take (i := 12) (d := 15) (v := ?_) (by kernel_rfl) (by kernel_rfl) (by kernel_rfl) (by kernel_rfl) (fun _ _ _ h => h) (fun oi hoi => ?_) ?_
          rotate_left
          · simp at hoi
            subst hoi
            refine ⟨by rfl, fun w' hw' => ?_⟩
            have hfl := field_op
            go_simp
            all_goals rfl
          try simp only [Act.put, List.setIfInBounds_toArray, List.set_cons_zero, List.set_cons_succ]
          refine later_take (i := 13) (d := 16) (v := ?_) (by kernel_rfl) (by kernel_rfl) (by kernel_rfl) (by kernel_rfl) (fun _ _ _ h => h) (fun oi hoi => ?_) ?_
          rotate_left
          · simp at hoi
            subst hoi
            refine ⟨by rfl, fun w' hw' => ?_⟩
            go_simp
            all_goals rfl
          try simp only [Act.put, List.setIfInBounds_toArray, List.set_cons_zero, List.set_cons_succ]
          refine later_take (i := 14) (d := 17) (v := ?_) (by kernel_rfl) (by kernel_rfl) (by kernel_rfl) (by kernel_rfl) (fun _ _ _ h => h) (fun oi hoi => ?_) ?_
          rotate_left
          · simp at hoi
            subst hoi
            refine ⟨by rfl, fun w' hw' => ?_⟩
            go_simp
            all_goals rfl
          try simp only [Act.put, List.setIfInBounds_toArray, List.set_cons_zero, List.set_cons_succ]
          refine later_take (i := 15) (d := 18) (v := ?_) (by kernel_rfl) (by kernel_rfl) (by kernel_rfl) (by kernel_rfl) (fun _ _ _ h => h) (fun oi hoi => ?_) ?_
          rotate_left
          · simp at hoi
            subst hoi
            refine ⟨by rfl, fun w' hw' => ?_⟩
            go_simp
            all_goals rfl
          try simp only [Act.put, List.setIfInBounds_toArray, List.set_cons_zero, List.set_cons_succ]
          refine later_take (i := 16) (d := 19) (v := ?_) (by kernel_rfl) (by kernel_rfl) (by kernel_rfl) (by kernel_rfl) (fun _ _ _ h => h) (fun oi hoi => ?_) ?_
          rotate_left
          · simp at hoi
            subst hoi
            refine ⟨by rfl, fun w' hw' => ?_⟩
            go_simp
            all_goals rfl
          try simp only [Act.put, List.setIfInBounds_toArray, List.set_cons_zero, List.set_cons_succ]
          refine later_take (i := 17) (d := 20) (v := ?_) (by kernel_rfl) (by kernel_rfl) (by kernel_rfl) (by kernel_rfl) (fun _ _ _ h => h) (fun oi hoi => ?_) ?_
          rotate_left
          · simp at hoi
            subst hoi
            refine ⟨by rfl, fun w' hw' => ?_⟩
            have hx := Blk.below (unhide A) hw'
            have x1 := hx.cell 1
            simp only [List.getElem?_toArray, List.getElem?_cons_succ, List.getElem?_cons_zero] at x1
            go_simp
            all_goals rfl
          try simp only [Act.put, List.setIfInBounds_toArray, List.set_cons_zero, List.set_cons_succ]
          refine later_take (i := 20) (d := 23) (v := ?_) (by kernel_rfl) (by kernel_rfl) (by kernel_rfl) (by kernel_rfl) (fun _ _ _ h => h) (fun oi hoi => ?_) ?_
          rotate_left
          · simp at hoi
            subst hoi
            refine ⟨by rfl, fun w' hw' => ?_⟩
            go_simp
            all_goals rfl
          try simp only [Act.put, List.setIfInBounds_toArray, List.set_cons_zero, List.set_cons_succ]
          refine later_take (i := 21) (d := 24) (v := ?_) (by kernel_rfl) (by kernel_rfl) (by kernel_rfl) (by kernel_rfl) (fun _ _ _ h => h) (fun oi hoi => ?_) ?_
          rotate_left
          · simp at hoi
            subst hoi
            refine ⟨by rfl, fun w' hw' => ?_⟩
            have hx := Blk.below (unhide A) hw'
            have x0 := hx.cell 0
            simp only [List.getElem?_toArray, List.getElem?_cons_zero] at x0
            go_simp
            all_goals rfl
          try simp only [Act.put, List.setIfInBounds_toArray, List.set_cons_zero, List.set_cons_succ]
          refine later_one (i := 18) (by kernel_rfl) (fun oi K hoi hK => ?_)
          simp at hoi
          subst hoi
          refine ⟨by rfl, ?_⟩
          go_simp
          refine (l1How_any key _ H1.out).mono ?_
          rw [how_field]
          rintro e w3 ⟨rfl, hb⟩
          go_simp
          refine hK.out _ _ hb ?_
          clear hK
          replace A := hide ((unhide A).below hb)
          replace HB := hide (HB.out.trans (hb.mono HB.out.size))
          clear hb
          try simp only [Act.put, List.setIfInBounds_toArray, List.set_cons_zero, List.set_cons_succ]
          refine later_take (i := 19) (d := 22) (v := ?_) (by kernel_rfl) (by kernel_rfl) (by kernel_rfl) (by kernel_rfl) (fun _ _ _ h => h) (fun oi hoi => ?_) ?_
          rotate_left
          · simp at hoi
            subst hoi
            refine ⟨by rfl, fun w' hw' => ?_⟩
            have hfl := field_who
            go_simp
            all_goals rfl
          try simp only [Act.put, List.setIfInBounds_toArray, List.set_cons_zero, List.set_cons_succ]
          refine later_take (i := 22) (d := 25) (v := ?_) (by kernel_rfl) (by kernel_rfl) (by kernel_rfl) (by kernel_rfl) (fun _ _ _ h => h) (fun oi hoi => ?_) ?_
          rotate_left
          · simp at hoi
            subst hoi
            refine ⟨by rfl, fun w' hw' => ?_⟩
            go_simp
            all_goals rfl
          try simp only [Act.put, List.setIfInBounds_toArray, List.set_cons_zero, List.set_cons_succ]
          refine later_take (i := 23) (d := 26) (v := ?_) (by kernel_rfl) (by kernel_rfl) (by kernel_rfl) (by kernel_rfl) (fun _ _ _ h => h) (fun oi hoi => ?_) ?_
          rotate_left
          · simp at hoi
            subst hoi
            refine ⟨by rfl, fun w' hw' => ?_⟩
            go_simp
            all_goals rfl
          try simp only [Act.put, List.setIfInBounds_toArray, List.set_cons_zero, List.set_cons_succ]
          refine later_take (i := 24) (d := 27) (v := ?_) (by kernel_rfl) (by kernel_rfl) (by kernel_rfl) (by kernel_rfl) (fun _ _ _ h => h) (fun oi hoi => ?_) ?_
          rotate_left
          · simp at hoi
            subst hoi
            refine ⟨by rfl, fun w' hw' => ?_⟩
            go_simp
            all_goals rfl
          try simp only [Act.put, List.setIfInBounds_toArray, List.set_cons_zero, List.set_cons_succ]
          refine later_skip (i := 25) (d := 28) (by kernel_rfl) (by kernel_rfl) (by kernel_rfl) (by kernel_rfl) (fun _ _ _ h => h) (by rfl) ?_
          try simp only [Act.put, List.setIfInBounds_toArray, List.set_cons_zero, List.set_cons_succ]
          refine later_skip (i := 26) (d := 29) (by kernel_rfl) (by kernel_rfl) (by kernel_rfl) (by kernel_rfl) (fun _ _ _ h => h) (by rfl) ?_
          try simp only [Act.put, List.setIfInBounds_toArray, List.set_cons_zero, List.set_cons_succ]
          refine later_skip (i := 27) (d := 30) (by kernel_rfl) (by kernel_rfl) (by kernel_rfl) (by kernel_rfl) (fun _ _ _ h => h) (by rfl) ?_
          try simp only [Act.put, List.setIfInBounds_toArray, List.set_cons_zero, List.set_cons_succ]
          refine later_take (i := 28) (d := 31) (v := ?_) (by kernel_rfl) (by kernel_rfl) (by kernel_rfl) (by kernel_rfl) (fun _ _ _ h => h) (fun oi hoi => ?_) ?_
          rotate_left
          · simp at hoi
            subst hoi
            refine ⟨by rfl, fun w' hw' => ?_⟩
            go_simp
            all_goals rfl
          try simp only [Act.put, List.setIfInBounds_toArray, List.set_cons_zero, List.set_cons_succ]
          refine later_take (i := 29) (d := 32) (v := ?_) (by kernel_rfl) (by kernel_rfl) (by kernel_rfl) (by kernel_rfl) (fun _ _ _ h => h) (fun oi hoi => ?_) ?_
          rotate_left
          · simp at hoi
            subst hoi
            refine ⟨by rfl, fun w' hw' => ?_⟩
            go_simp
            all_goals rfl
          try simp only [Act.put, List.setIfInBounds_toArray, List.set_cons_zero, List.set_cons_succ]
          refine later_skip (i := 30) (d := 33) (by kernel_rfl) (by kernel_rfl) (by kernel_rfl) (by kernel_rfl) (fun _ _ _ h => h) (by rfl) ?_
          try simp only [Act.put, List.setIfInBounds_toArray, List.set_cons_zero, List.set_cons_succ]
          refine later_skip (i := 31) (d := 34) (by kernel_rfl) (by kernel_rfl) (by kernel_rfl) (by kernel_rfl) (fun _ _ _ h => h) (by rfl) ?_
          try simp only [Act.put, List.setIfInBounds_toArray, List.set_cons_zero, List.set_cons_succ]
          refine later_skip (i := 32) (d := 35) (by kernel_rfl) (by kernel_rfl) (by kernel_rfl) (by kernel_rfl) (fun _ _ _ h => h) (by rfl) ?_
          try simp only [Act.put, List.setIfInBounds_toArray, List.set_cons_zero, List.set_cons_succ]
          refine later_take (i := 33) (d := 36) (v := ?_) (by kernel_rfl) (by kernel_rfl) (by kernel_rfl) (by kernel_rfl) (fun _ _ _ h => h) (fun oi hoi => ?_) ?_
          rotate_left
          · simp at hoi
            subst hoi
            refine ⟨by rfl, fun w' hw' => ?_⟩
            go_simp
            all_goals rfl
          try simp only [Act.put, List.setIfInBounds_toArray, List.set_cons_zero, List.set_cons_succ]
          refine later_take (i := 34) (d := 2) (v := ?_) (by kernel_rfl) (by kernel_rfl) (by kernel_rfl) (by kernel_rfl) (fun _ _ _ h => h) (fun oi hoi => ?_) ?_
          rotate_left
          · simp at hoi
            subst hoi
            refine ⟨by rfl, fun w' hw' => ?_⟩
            go_simp
            all_goals rfl
          try simp only [Act.put, List.setIfInBounds_toArray, List.set_cons_zero, List.set_cons_succ]
          refine later_done (by kernel_rfl) ?_ _
          go_wp2_with fail
          go_ret
          exact ⟨ret_bool' HF.out.symm, unhide HB⟩
        | true =>
          simp only [Bool.true_and] at HE
          have hop3 : (mWho key == fr) = true := by simpa using H3.out
          obtain ⟨b4, hb4⟩ : ∃ b, inB 1 999 n = b := ⟨_, rfl⟩
          rw [hb4] at HE
          have H4 := hide hb4
          clear hb4
          cases b4 with
          | false =>
            have HF : Hid (r = false) := by show _ = _; rw [HE.out]; simp
            clear HE
            refine wp_region_later (by kernel_rfl) ?_
            refine later_take (i := 0) (d := 3) (v := ?_) (by kernel_rfl) (by kernel_rfl) (by kernel_rfl) (by kernel_rfl) (fun _ _ _ h => h) (fun oi hoi => ?_) ?_
            rotate_left
            · simp at hoi
              subst hoi
              refine ⟨by rfl, fun w' hw' => ?_⟩
              go_simp
              all_goals rfl
            try simp only [Act.put, List.setIfInBounds_toArray, List.set_cons_zero, List.set_cons_succ]
            refine later_take (i := 1) (d := 4) (v := ?_) (by kernel_rfl) (by kernel_rfl) (by kernel_rfl) (by kernel_rfl) (fun _ _ _ h => h) (fun oi hoi => ?_) ?_
            rotate_left
            · simp at hoi
              subst hoi
              refine ⟨by rfl, fun w' hw' => ?_⟩
              have hx := Blk.below (unhide A) hw'
              have x0 := hx.cell 0
              simp only [List.getElem?_toArray, List.getElem?_cons_zero] at x0
              go_simp
              all_goals rfl
            try simp only [Act.put, List.setIfInBounds_toArray, List.set_cons_zero, List.set_cons_succ]
            refine later_one (i := 2) (by kernel_rfl) (fun oi K hoi hK => ?_)
            simp at hoi
            subst hoi
            refine ⟨by rfl, ?_⟩
            go_simp
            refine (l1In_any fr 0 7 _).mono ?_
            rw [H0.out]
            rintro e wz ⟨rfl, rfl⟩
            go_simp
            refine hK.out _ _ (Below.refl _ _) ?_
            clear hK
            try simp only [Act.put, List.setIfInBounds_toArray, List.set_cons_zero, List.set_cons_succ]
            refine later_take (i := 3) (d := 6) (v := ?_) (by kernel_rfl) (by kernel_rfl) (by kernel_rfl) (by kernel_rfl) (fun _ _ _ h => h) (fun oi hoi => ?_) ?_
            rotate_left
            · simp at hoi
              subst hoi
              refine ⟨by rfl, fun w' hw' => ?_⟩
              go_simp
              all_goals rfl
            try simp only [Act.put, List.setIfInBounds_toArray, List.set_cons_zero, List.set_cons_succ]
            refine later_take (i := 4) (d := 7) (v := ?_) (by kernel_rfl) (by kernel_rfl) (by kernel_rfl) (by kernel_rfl) (fun _ _ _ h => h) (fun oi hoi => ?_) ?_
            rotate_left
            · simp at hoi
              subst hoi
              refine ⟨by rfl, fun w' hw' => ?_⟩
              go_simp
              all_goals rfl
            try simp only [Act.put, List.setIfInBounds_toArray, List.set_cons_zero, List.set_cons_succ]
            refine later_take (i := 5) (d := 8) (v := ?_) (by kernel_rfl) (by kernel_rfl) (by kernel_rfl) (by kernel_rfl) (fun _ _ _ h => h) (fun oi hoi => ?_) ?_
            rotate_left
            · simp at hoi
              subst hoi
              refine ⟨by rfl, fun w' hw' => ?_⟩
              have hx := Blk.below (unhide A) hw'
              have x1 := hx.cell 1
              simp only [List.getElem?_toArray, List.getElem?_cons_succ, List.getElem?_cons_zero] at x1
              go_simp
              all_goals rfl
            try simp only [Act.put, List.setIfInBounds_toArray, List.set_cons_zero, List.set_cons_succ]
            refine later_one (i := 6) (by kernel_rfl) (fun oi K hoi hK => ?_)
            simp at hoi
            subst hoi
            refine ⟨by rfl, ?_⟩
            go_simp
            refine (sSecOk_any key _ M.out).mono ?_
            rw [H1.out]
            rintro e w1 ⟨rfl, hb⟩
            go_simp
            refine hK.out _ _ hb ?_
            clear hK
            replace A := hide ((unhide A).below hb)
            replace HB := hide (HB.out.trans (hb.mono HB.out.size))
            clear hb
            try simp only [Act.put, List.setIfInBounds_toArray, List.set_cons_zero, List.set_cons_succ]
            refine later_take (i := 7) (d := 10) (v := ?_) (by kernel_rfl) (by kernel_rfl) (by kernel_rfl) (by kernel_rfl) (fun _ _ _ h => h) (fun oi hoi => ?_) ?_
            rotate_left
            · simp at hoi
              subst hoi
              refine ⟨by rfl, fun w' hw' => ?_⟩
              go_simp
              all_goals rfl
            try simp only [Act.put, List.setIfInBounds_toArray, List.set_cons_zero, List.set_cons_succ]
            refine later_take (i := 8) (d := 11) (v := ?_) (by kernel_rfl) (by kernel_rfl) (by kernel_rfl) (by kernel_rfl) (fun _ _ _ h => h) (fun oi hoi => ?_) ?_
            rotate_left
            · simp at hoi
              subst hoi
              refine ⟨by rfl, fun w' hw' => ?_⟩
              go_simp
              all_goals rfl
            try simp only [Act.put, List.setIfInBounds_toArray, List.set_cons_zero, List.set_cons_succ]
            refine later_take (i := 9) (d := 12) (v := ?_) (by kernel_rfl) (by kernel_rfl) (by kernel_rfl) (by kernel_rfl) (fun _ _ _ h => h) (fun oi hoi => ?_) ?_
            rotate_left
            · simp at hoi
              subst hoi
              refine ⟨by rfl, fun w' hw' => ?_⟩
              go_simp
              all_goals rfl
            try simp only [Act.put, List.setIfInBounds_toArray, List.set_cons_zero, List.set_cons_succ]
            refine later_take (i := 10) (d := 13) (v := ?_) (by kernel_rfl) (by kernel_rfl) (by kernel_rfl) (by kernel_rfl) (fun _ _ _ h => h) (fun oi hoi => ?_) ?_
            rotate_left
            · simp at hoi
              subst hoi
              refine ⟨by rfl, fun w' hw' => ?_⟩
              have hx := Blk.below (unhide A) hw'
              have x1 := hx.cell 1
              simp only [List.getElem?_toArray, List.getElem?_cons_succ, List.getElem?_cons_zero] at x1
              go_simp
              all_goals rfl
            try simp only [Act.put, List.setIfInBounds_toArray, List.set_cons_zero, List.set_cons_succ]
            refine later_one (i := 11) (by kernel_rfl) (fun oi K hoi hK => ?_)
            simp at hoi
            subst hoi
            refine ⟨by rfl, ?_⟩
            go_simp
            refine (l1How_any key _ H1.out).mono ?_
            rw [how_field]
            rintro e w2 ⟨rfl, hb⟩
            go_simp
            refine hK.out _ _ hb ?_
            clear hK
            replace A := hide ((unhide A).below hb)
            replace HB := hide (HB.out.trans (hb.mono HB.out.size))
            clear hb
            try simp only [Act.put, List.setIfInBounds_toArray, List.set_cons_zero, List.set_cons_succ]
            refine later_take (i := 12) (d := 15) (v := ?_) (by kernel_rfl) (by kernel_rfl) (by kernel_rfl) (by kernel_rfl) (fun _ _ _ h => h) (fun oi hoi => ?_) ?_
            rotate_left
            · simp at hoi
              subst hoi
              refine ⟨by rfl, fun w' hw' => ?_⟩
              have hfl := field_op
              go_simp
              all_goals rfl
            try simp only [Act.put, List.setIfInBounds_toArray, List.set_cons_zero, List.set_cons_succ]
            refine later_take (i := 13) (d := 16) (v := ?_) (by kernel_rfl) (by kernel_rfl) (by kernel_rfl) (by kernel_rfl) (fun _ _ _ h => h) (fun oi hoi => ?_) ?_
            rotate_left
            · simp at hoi
              subst hoi
              refine ⟨by rfl, fun w' hw' => ?_⟩
              go_simp
              all_goals rfl
            try simp only [Act.put, List.setIfInBounds_toArray, List.set_cons_zero, List.set_cons_succ]
            refine later_take (i := 14) (d := 17) (v := ?_) (by kernel_rfl) (by kernel_rfl) (by kernel_rfl) (by kernel_rfl) (fun _ _ _ h => h) (fun oi hoi => ?_) ?_
            rotate_left
            · simp at hoi
              subst hoi
              refine ⟨by rfl, fun w' hw' => ?_⟩
              go_simp
              all_goals rfl
            try simp only [Act.put, List.setIfInBounds_toArray, List.set_cons_zero, List.set_cons_succ]
            refine later_take (i := 15) (d := 18) (v := ?_) (by kernel_rfl) (by kernel_rfl) (by kernel_rfl) (by kernel_rfl) (fun _ _ _ h => h) (fun oi hoi => ?_) ?_
            rotate_left
            · simp at hoi
              subst hoi
              refine ⟨by rfl, fun w' hw' => ?_⟩
              go_simp
              all_goals rfl
            try simp only [Act.put, List.setIfInBounds_toArray, List.set_cons_zero, List.set_cons_succ]
            refine later_take (i := 16) (d := 19) (v := ?_) (by kernel_rfl) (by kernel_rfl) (by kernel_rfl) (by kernel_rfl) (fun _ _ _ h => h) (fun oi hoi => ?_) ?_
            rotate_left
            · simp at hoi
              subst hoi
              refine ⟨by rfl, fun w' hw' => ?_⟩
              go_simp
              all_goals rfl
            try simp only [Act.put, List.setIfInBounds_toArray, List.set_cons_zero, List.set_cons_succ]
            refine later_take (i := 17) (d := 20) (v := ?_) (by kernel_rfl) (by kernel_rfl) (by kernel_rfl) (by kernel_rfl) (fun _ _ _ h => h) (fun oi hoi => ?_) ?_
            rotate_left
            · simp at hoi
              subst hoi
              refine ⟨by rfl, fun w' hw' => ?_⟩
              have hx := Blk.below (unhide A) hw'
              have x1 := hx.cell 1
              simp only [List.getElem?_toArray, List.getElem?_cons_succ, List.getElem?_cons_zero] at x1
              go_simp
              all_goals rfl
            try simp only [Act.put, List.setIfInBounds_toArray, List.set_cons_zero, List.set_cons_succ]
            refine later_take (i := 20) (d := 23) (v := ?_) (by kernel_rfl) (by kernel_rfl) (by kernel_rfl) (by kernel_rfl) (fun _ _ _ h => h) (fun oi hoi => ?_) ?_
            rotate_left
            · simp at hoi
              subst hoi
              refine ⟨by rfl, fun w' hw' => ?_⟩
              go_simp
              all_goals rfl
            try simp only [Act.put, List.setIfInBounds_toArray, List.set_cons_zero, List.set_cons_succ]
            refine later_take (i := 21) (d := 24) (v := ?_) (by kernel_rfl) (by kernel_rfl) (by kernel_rfl) (by kernel_rfl) (fun _ _ _ h => h) (fun oi hoi => ?_) ?_
            rotate_left
            · simp at hoi
              subst hoi
              refine ⟨by rfl, fun w' hw' => ?_⟩
              have hx := Blk.below (unhide A) hw'
              have x0 := hx.cell 0
              simp only [List.getElem?_toArray, List.getElem?_cons_zero] at x0
              go_simp
              all_goals rfl
            try simp only [Act.put, List.setIfInBounds_toArray, List.set_cons_zero, List.set_cons_succ]
            refine later_one (i := 18) (by kernel_rfl) (fun oi K hoi hK => ?_)
            simp at hoi
            subst hoi
            refine ⟨by rfl, ?_⟩
            go_simp
            refine (l1How_any key _ H1.out).mono ?_
            rw [how_field]
            rintro e w3 ⟨rfl, hb⟩
            go_simp
            refine hK.out _ _ hb ?_
            clear hK
            replace A := hide ((unhide A).below hb)
            replace HB := hide (HB.out.trans (hb.mono HB.out.size))
            clear hb
            try simp only [Act.put, List.setIfInBounds_toArray, List.set_cons_zero, List.set_cons_succ]
            refine later_take (i := 19) (d := 22) (v := ?_) (by kernel_rfl) (by kernel_rfl) (by kernel_rfl) (by kernel_rfl) (fun _ _ _ h => h) (fun oi hoi => ?_) ?_
            rotate_left
            · simp at hoi
              subst hoi
              refine ⟨by rfl, fun w' hw' => ?_⟩
              have hfl := field_who
              go_simp
              all_goals rfl
            try simp only [Act.put, List.setIfInBounds_toArray, List.set_cons_zero, List.set_cons_succ]
            refine later_take (i := 22) (d := 25) (v := ?_) (by kernel_rfl) (by kernel_rfl) (by kernel_rfl) (by kernel_rfl) (fun _ _ _ h => h) (fun oi hoi => ?_) ?_
            rotate_left
            · simp at hoi
              subst hoi
              refine ⟨by rfl, fun w' hw' => ?_⟩
              go_simp
              all_goals rfl
            try simp only [Act.put, List.setIfInBounds_toArray, List.set_cons_zero, List.set_cons_succ]
            refine later_take (i := 23) (d := 26) (v := ?_) (by kernel_rfl) (by kernel_rfl) (by kernel_rfl) (by kernel_rfl) (fun _ _ _ h => h) (fun oi hoi => ?_) ?_
            rotate_left
            · simp at hoi
              subst hoi
              refine ⟨by rfl, fun w' hw' => ?_⟩
              go_simp
              all_goals rfl
            try simp only [Act.put, List.setIfInBounds_toArray, List.set_cons_zero, List.set_cons_succ]
            refine later_take (i := 24) (d := 27) (v := ?_) (by kernel_rfl) (by kernel_rfl) (by kernel_rfl) (by kernel_rfl) (fun _ _ _ h => h) (fun oi hoi => ?_) ?_
            rotate_left
            · simp at hoi
              subst hoi
              refine ⟨by rfl, fun w' hw' => ?_⟩
              go_simp
              all_goals rfl
            try simp only [Act.put, List.setIfInBounds_toArray, List.set_cons_zero, List.set_cons_succ]
            refine later_take (i := 25) (d := 28) (v := ?_) (by kernel_rfl) (by kernel_rfl) (by kernel_rfl) (by kernel_rfl) (fun _ _ _ h => h) (fun oi hoi => ?_) ?_
            rotate_left
            · simp at hoi
              subst hoi
              refine ⟨by rfl, fun w' hw' => ?_⟩
              go_simp
              all_goals rfl
            try simp only [Act.put, List.setIfInBounds_toArray, List.set_cons_zero, List.set_cons_succ]
            refine later_take (i := 26) (d := 29) (v := ?_) (by kernel_rfl) (by kernel_rfl) (by kernel_rfl) (by kernel_rfl) (fun _ _ _ h => h) (fun oi hoi => ?_) ?_
            rotate_left
            · simp at hoi
              subst hoi
              refine ⟨by rfl, fun w' hw' => ?_⟩
              have hx := Blk.below (unhide A) hw'
              have x2 := hx.cell 2
              simp only [List.getElem?_toArray, List.getElem?_cons_succ, List.getElem?_cons_zero] at x2
              go_simp
              all_goals rfl
            try simp only [Act.put, List.setIfInBounds_toArray, List.set_cons_zero, List.set_cons_succ]
            refine later_one (i := 27) (by kernel_rfl) (fun oi K hoi hK => ?_)
            simp at hoi
            subst hoi
            refine ⟨by rfl, ?_⟩
            go_simp
            refine (l1In_any n 1 999 _).mono ?_
            rw [H4.out]
            rintro e wz ⟨rfl, rfl⟩
            go_simp
            refine hK.out _ _ (Below.refl _ _) ?_
            clear hK
            try simp only [Act.put, List.setIfInBounds_toArray, List.set_cons_zero, List.set_cons_succ]
            refine later_take (i := 28) (d := 31) (v := ?_) (by kernel_rfl) (by kernel_rfl) (by kernel_rfl) (by kernel_rfl) (fun _ _ _ h => h) (fun oi hoi => ?_) ?_
            rotate_left
            · simp at hoi
              subst hoi
              refine ⟨by rfl, fun w' hw' => ?_⟩
              go_simp
              all_goals rfl
            try simp only [Act.put, List.setIfInBounds_toArray, List.set_cons_zero, List.set_cons_succ]
            refine later_take (i := 29) (d := 32) (v := ?_) (by kernel_rfl) (by kernel_rfl) (by kernel_rfl) (by kernel_rfl) (fun _ _ _ h => h) (fun oi hoi => ?_) ?_
            rotate_left
            · simp at hoi
              subst hoi
              refine ⟨by rfl, fun w' hw' => ?_⟩
              go_simp
              all_goals rfl
            try simp only [Act.put, List.setIfInBounds_toArray, List.set_cons_zero, List.set_cons_succ]
            refine later_skip (i := 30) (d := 33) (by kernel_rfl) (by kernel_rfl) (by kernel_rfl) (by kernel_rfl) (fun _ _ _ h => h) (by rfl) ?_
            try simp only [Act.put, List.setIfInBounds_toArray, List.set_cons_zero, List.set_cons_succ]
            refine later_skip (i := 31) (d := 34) (by kernel_rfl) (by kernel_rfl) (by kernel_rfl) (by kernel_rfl) (fun _ _ _ h => h) (by rfl) ?_
            try simp only [Act.put, List.setIfInBounds_toArray, List.set_cons_zero, List.set_cons_succ]
            refine later_skip (i := 32) (d := 35) (by kernel_rfl) (by kernel_rfl) (by kernel_rfl) (by kernel_rfl) (fun _ _ _ h => h) (by rfl) ?_
            try simp only [Act.put, List.setIfInBounds_toArray, List.set_cons_zero, List.set_cons_succ]
            refine later_take (i := 33) (d := 36) (v := ?_) (by kernel_rfl) (by kernel_rfl) (by kernel_rfl) (by kernel_rfl) (fun _ _ _ h => h) (fun oi hoi => ?_) ?_
            rotate_left
            · simp at hoi
              subst hoi
              refine ⟨by rfl, fun w' hw' => ?_⟩
              go_simp
              all_goals rfl
            try simp only [Act.put, List.setIfInBounds_toArray, List.set_cons_zero, List.set_cons_succ]
            refine later_take (i := 34) (d := 2) (v := ?_) (by kernel_rfl) (by kernel_rfl) (by kernel_rfl) (by kernel_rfl) (fun _ _ _ h => h) (fun oi hoi => ?_) ?_
            rotate_left
            · simp at hoi
              subst hoi
              refine ⟨by rfl, fun w' hw' => ?_⟩
              go_simp
              all_goals rfl
            try simp only [Act.put, List.setIfInBounds_toArray, List.set_cons_zero, List.set_cons_succ]
            refine later_done (by kernel_rfl) ?_ _
            go_wp2_with fail
            go_ret
            exact ⟨ret_bool' HF.out.symm, unhide HB⟩
          | true =>
            simp only [Bool.true_and] at HE
            obtain ⟨b5, hb5⟩ : ∃ b, textB text = b := ⟨_, rfl⟩
            rw [hb5] at HE
            have H5 := hide hb5
            clear hb5
            cases b5 with
            | false =>
              have HF : Hid (r = false) := by show _ = _; rw [HE.out]
              clear HE
              refine wp_region_later (by kernel_rfl) ?_
              refine later_take (i := 0) (d := 3) (v := ?_) (by kernel_rfl) (by kernel_rfl) (by kernel_rfl) (by kernel_rfl) (fun _ _ _ h => h) (fun oi hoi => ?_) ?_
              rotate_left
              · simp at hoi
                subst hoi
                refine ⟨by rfl, fun w' hw' => ?_⟩
                go_simp
                all_goals rfl
              try simp only [Act.put, List.setIfInBounds_toArray, List.set_cons_zero, List.set_cons_succ]
              refine later_take (i := 1) (d := 4) (v := ?_) (by kernel_rfl) (by kernel_rfl) (by kernel_rfl) (by kernel_rfl) (fun _ _ _ h => h) (fun oi hoi => ?_) ?_
              rotate_left
              · simp at hoi
                subst hoi
                refine ⟨by rfl, fun w' hw' => ?_⟩
                have hx := Blk.below (unhide A) hw'
                have x0 := hx.cell 0
                simp only [List.getElem?_toArray, List.getElem?_cons_zero] at x0
                go_simp
                all_goals rfl
              try simp only [Act.put, List.setIfInBounds_toArray, List.set_cons_zero, List.set_cons_succ]
              refine later_one (i := 2) (by kernel_rfl) (fun oi K hoi hK => ?_)
              simp at hoi
              subst hoi
              refine ⟨by rfl, ?_⟩
              go_simp
              refine (l1In_any fr 0 7 _).mono ?_
              rw [H0.out]
              rintro e wz ⟨rfl, rfl⟩
              go_simp
              refine hK.out _ _ (Below.refl _ _) ?_
              clear hK
              try simp only [Act.put, List.setIfInBounds_toArray, List.set_cons_zero, List.set_cons_succ]
              refine later_take (i := 3) (d := 6) (v := ?_) (by kernel_rfl) (by kernel_rfl) (by kernel_rfl) (by kernel_rfl) (fun _ _ _ h => h) (fun oi hoi => ?_) ?_
              rotate_left
              · simp at hoi
                subst hoi
                refine ⟨by rfl, fun w' hw' => ?_⟩
                go_simp
                all_goals rfl
              try simp only [Act.put, List.setIfInBounds_toArray, List.set_cons_zero, List.set_cons_succ]
              refine later_take (i := 4) (d := 7) (v := ?_) (by kernel_rfl) (by kernel_rfl) (by kernel_rfl) (by kernel_rfl) (fun _ _ _ h => h) (fun oi hoi => ?_) ?_
              rotate_left
              · simp at hoi
                subst hoi
                refine ⟨by rfl, fun w' hw' => ?_⟩
                go_simp
                all_goals rfl
              try simp only [Act.put, List.setIfInBounds_toArray, List.set_cons_zero, List.set_cons_succ]
              refine later_take (i := 5) (d := 8) (v := ?_) (by kernel_rfl) (by kernel_rfl) (by kernel_rfl) (by kernel_rfl) (fun _ _ _ h => h) (fun oi hoi => ?_) ?_
              rotate_left
              · simp at hoi
                subst hoi
                refine ⟨by rfl, fun w' hw' => ?_⟩
                have hx := Blk.below (unhide A) hw'
                have x1 := hx.cell 1
                simp only [List.getElem?_toArray, List.getElem?_cons_succ, List.getElem?_cons_zero] at x1
                go_simp
                all_goals rfl
              try simp only [Act.put, List.setIfInBounds_toArray, List.set_cons_zero, List.set_cons_succ]
              refine later_one (i := 6) (by kernel_rfl) (fun oi K hoi hK => ?_)
              simp at hoi
              subst hoi
              refine ⟨by rfl, ?_⟩
              go_simp
              refine (sSecOk_any key _ M.out).mono ?_
              rw [H1.out]
              rintro e w1 ⟨rfl, hb⟩
              go_simp
              refine hK.out _ _ hb ?_
              clear hK
              replace A := hide ((unhide A).below hb)
              replace HB := hide (HB.out.trans (hb.mono HB.out.size))
              clear hb
              try simp only [Act.put, List.setIfInBounds_toArray, List.set_cons_zero, List.set_cons_succ]
              refine later_take (i := 7) (d := 10) (v := ?_) (by kernel_rfl) (by kernel_rfl) (by kernel_rfl) (by kernel_rfl) (fun _ _ _ h => h) (fun oi hoi => ?_) ?_
              rotate_left
              · simp at hoi
                subst hoi
                refine ⟨by rfl, fun w' hw' => ?_⟩
                go_simp
                all_goals rfl
              try simp only [Act.put, List.setIfInBounds_toArray, List.set_cons_zero, List.set_cons_succ]
              refine later_take (i := 8) (d := 11) (v := ?_) (by kernel_rfl) (by kernel_rfl) (by kernel_rfl) (by kernel_rfl) (fun _ _ _ h => h) (fun oi hoi => ?_) ?_
              rotate_left
              · simp at hoi
                subst hoi
                refine ⟨by rfl, fun w' hw' => ?_⟩
                go_simp
                all_goals rfl
              try simp only [Act.put, List.setIfInBounds_toArray, List.set_cons_zero, List.set_cons_succ]
              refine later_take (i := 9) (d := 12) (v := ?_) (by kernel_rfl) (by kernel_rfl) (by kernel_rfl) (by kernel_rfl) (fun _ _ _ h => h) (fun oi hoi => ?_) ?_
              rotate_left
              · simp at hoi
                subst hoi
                refine ⟨by rfl, fun w' hw' => ?_⟩
                go_simp
                all_goals rfl
              try simp only [Act.put, List.setIfInBounds_toArray, List.set_cons_zero, List.set_cons_succ]
              refine later_take (i := 10) (d := 13) (v := ?_) (by kernel_rfl) (by kernel_rfl) (by kernel_rfl) (by kernel_rfl) (fun _ _ _ h => h) (fun oi hoi => ?_) ?_
              rotate_left
              · simp at hoi
                subst hoi
                refine ⟨by rfl, fun w' hw' => ?_⟩
                have hx := Blk.below (unhide A) hw'
                have x1 := hx.cell 1
                simp only [List.getElem?_toArray, List.getElem?_cons_succ, List.getElem?_cons_zero] at x1
                go_simp
                all_goals rfl
              try simp only [Act.put, List.setIfInBounds_toArray, List.set_cons_zero, List.set_cons_succ]
              refine later_one (i := 11) (by kernel_rfl) (fun oi K hoi hK => ?_)
              simp at hoi
              subst hoi
              refine ⟨by rfl, ?_⟩
              go_simp
              refine (l1How_any key _ H1.out).mono ?_
              rw [how_field]
              rintro e w2 ⟨rfl, hb⟩
              go_simp
              refine hK.out _ _ hb ?_
              clear hK
              replace A := hide ((unhide A).below hb)
              replace HB := hide (HB.out.trans (hb.mono HB.out.size))
              clear hb
              try simp only [Act.put, List.setIfInBounds_toArray, List.set_cons_zero, List.set_cons_succ]
              refine later_take (i := 12) (d := 15) (v := ?_) (by kernel_rfl) (by kernel_rfl) (by kernel_rfl) (by kernel_rfl) (fun _ _ _ h => h) (fun oi hoi => ?_) ?_
              rotate_left
              · simp at hoi
                subst hoi
                refine ⟨by rfl, fun w' hw' => ?_⟩
                have hfl := field_op
                go_simp
                all_goals rfl
              try simp only [Act.put, List.setIfInBounds_toArray, List.set_cons_zero, List.set_cons_succ]
              refine later_take (i := 13) (d := 16) (v := ?_) (by kernel_rfl) (by kernel_rfl) (by kernel_rfl) (by kernel_rfl) (fun _ _ _ h => h) (fun oi hoi => ?_) ?_
              rotate_left
              · simp at hoi
                subst hoi
                refine ⟨by rfl, fun w' hw' => ?_⟩
                go_simp
                all_goals rfl
              try simp only [Act.put, List.setIfInBounds_toArray, List.set_cons_zero, List.set_cons_succ]
              refine later_take (i := 14) (d := 17) (v := ?_) (by kernel_rfl) (by kernel_rfl) (by kernel_rfl) (by kernel_rfl) (fun _ _ _ h => h) (fun oi hoi => ?_) ?_
              rotate_left
              · simp at hoi
                subst hoi
                refine ⟨by rfl, fun w' hw' => ?_⟩
                go_simp
                all_goals rfl
              try simp only [Act.put, List.setIfInBounds_toArray, List.set_cons_zero, List.set_cons_succ]
              refine later_take (i := 15) (d := 18) (v := ?_) (by kernel_rfl) (by kernel_rfl) (by kernel_rfl) (by kernel_rfl) (fun _ _ _ h => h) (fun oi hoi => ?_) ?_
              rotate_left
              · simp at hoi
                subst hoi
                refine ⟨by rfl, fun w' hw' => ?_⟩
                go_simp
                all_goals rfl
              try simp only [Act.put, List.setIfInBounds_toArray, List.set_cons_zero, List.set_cons_succ]
              refine later_take (i := 16) (d := 19) (v := ?_) (by kernel_rfl) (by kernel_rfl) (by kernel_rfl) (by kernel_rfl) (fun _ _ _ h => h) (fun oi hoi => ?_) ?_
              rotate_left
              · simp at hoi
                subst hoi
                refine ⟨by rfl, fun w' hw' => ?_⟩
                go_simp
                all_goals rfl
              try simp only [Act.put, List.setIfInBounds_toArray, List.set_cons_zero, List.set_cons_succ]
              refine later_take (i := 17) (d := 20) (v := ?_) (by kernel_rfl) (by kernel_rfl) (by kernel_rfl) (by kernel_rfl) (fun _ _ _ h => h) (fun oi hoi => ?_) ?_
              rotate_left
              · simp at hoi
                subst hoi
                refine ⟨by rfl, fun w' hw' => ?_⟩
                have hx := Blk.below (unhide A) hw'
                have x1 := hx.cell 1
                simp only [List.getElem?_toArray, List.getElem?_cons_succ, List.getElem?_cons_zero] at x1
                go_simp
                all_goals rfl
              try simp only [Act.put, List.setIfInBounds_toArray, List.set_cons_zero, List.set_cons_succ]
              refine later_take (i := 20) (d := 23) (v := ?_) (by kernel_rfl) (by kernel_rfl) (by kernel_rfl) (by kernel_rfl) (fun _ _ _ h => h) (fun oi hoi => ?_) ?_
              rotate_left
              · simp at hoi
                subst hoi
                refine ⟨by rfl, fun w' hw' => ?_⟩
                go_simp
                all_goals rfl
              try simp only [Act.put, List.setIfInBounds_toArray, List.set_cons_zero, List.set_cons_succ]
              refine later_take (i := 21) (d := 24) (v := ?_) (by kernel_rfl) (by kernel_rfl) (by kernel_rfl) (by kernel_rfl) (fun _ _ _ h => h) (fun oi hoi => ?_) ?_
              rotate_left
              · simp at hoi
                subst hoi
                refine ⟨by rfl, fun w' hw' => ?_⟩
                have hx := Blk.below (unhide A) hw'
                have x0 := hx.cell 0
                simp only [List.getElem?_toArray, List.getElem?_cons_zero] at x0
                go_simp
                all_goals rfl
              try simp only [Act.put, List.setIfInBounds_toArray, List.set_cons_zero, List.set_cons_succ]
              refine later_one (i := 18) (by kernel_rfl) (fun oi K hoi hK => ?_)
              simp at hoi
              subst hoi
              refine ⟨by rfl, ?_⟩
              go_simp
              refine (l1How_any key _ H1.out).mono ?_
              rw [how_field]
              rintro e w3 ⟨rfl, hb⟩
              go_simp
              refine hK.out _ _ hb ?_
              clear hK
              replace A := hide ((unhide A).below hb)
              replace HB := hide (HB.out.trans (hb.mono HB.out.size))
              clear hb
              try simp only [Act.put, List.setIfInBounds_toArray, List.set_cons_zero, List.set_cons_succ]
              refine later_take (i := 19) (d := 22) (v := ?_) (by kernel_rfl) (by kernel_rfl) (by kernel_rfl) (by kernel_rfl) (fun _ _ _ h => h) (fun oi hoi => ?_) ?_
              rotate_left
              · simp at hoi
                subst hoi
                refine ⟨by rfl, fun w' hw' => ?_⟩
                have hfl := field_who
                go_simp
                all_goals rfl
              try simp only [Act.put, List.setIfInBounds_toArray, List.set_cons_zero, List.set_cons_succ]
              refine later_take (i := 22) (d := 25) (v := ?_) (by kernel_rfl) (by kernel_rfl) (by kernel_rfl) (by kernel_rfl) (fun _ _ _ h => h) (fun oi hoi => ?_) ?_
              rotate_left
              · simp at hoi
                subst hoi
                refine ⟨by rfl, fun w' hw' => ?_⟩
                go_simp
                all_goals rfl
              try simp only [Act.put, List.setIfInBounds_toArray, List.set_cons_zero, List.set_cons_succ]
              refine later_take (i := 23) (d := 26) (v := ?_) (by kernel_rfl) (by kernel_rfl) (by kernel_rfl) (by kernel_rfl) (fun _ _ _ h => h) (fun oi hoi => ?_) ?_
              rotate_left
              · simp at hoi
                subst hoi
                refine ⟨by rfl, fun w' hw' => ?_⟩
                go_simp
                all_goals rfl
              try simp only [Act.put, List.setIfInBounds_toArray, List.set_cons_zero, List.set_cons_succ]
              refine later_take (i := 24) (d := 27) (v := ?_) (by kernel_rfl) (by kernel_rfl) (by kernel_rfl) (by kernel_rfl) (fun _ _ _ h => h) (fun oi hoi => ?_) ?_
              rotate_left
              · simp at hoi
                subst hoi
                refine ⟨by rfl, fun w' hw' => ?_⟩
                go_simp
                all_goals rfl
              try simp only [Act.put, List.setIfInBounds_toArray, List.set_cons_zero, List.set_cons_succ]
              refine later_take (i := 25) (d := 28) (v := ?_) (by kernel_rfl) (by kernel_rfl) (by kernel_rfl) (by kernel_rfl) (fun _ _ _ h => h) (fun oi hoi => ?_) ?_
              rotate_left
              · simp at hoi
                subst hoi
                refine ⟨by rfl, fun w' hw' => ?_⟩
                go_simp
                all_goals rfl
              try simp only [Act.put, List.setIfInBounds_toArray, List.set_cons_zero, List.set_cons_succ]
              refine later_take (i := 26) (d := 29) (v := ?_) (by kernel_rfl) (by kernel_rfl) (by kernel_rfl) (by kernel_rfl) (fun _ _ _ h => h) (fun oi hoi => ?_) ?_
              rotate_left
              · simp at hoi
                subst hoi
                refine ⟨by rfl, fun w' hw' => ?_⟩
                have hx := Blk.below (unhide A) hw'
                have x2 := hx.cell 2
                simp only [List.getElem?_toArray, List.getElem?_cons_succ, List.getElem?_cons_zero] at x2
                go_simp
                all_goals rfl
              try simp only [Act.put, List.setIfInBounds_toArray, List.set_cons_zero, List.set_cons_succ]
              refine later_one (i := 27) (by kernel_rfl) (fun oi K hoi hK => ?_)
              simp at hoi
              subst hoi
              refine ⟨by rfl, ?_⟩
              go_simp
              refine (l1In_any n 1 999 _).mono ?_
              rw [H4.out]
              rintro e wz ⟨rfl, rfl⟩
              go_simp
              refine hK.out _ _ (Below.refl _ _) ?_
              clear hK
              try simp only [Act.put, List.setIfInBounds_toArray, List.set_cons_zero, List.set_cons_succ]
              refine later_take (i := 28) (d := 31) (v := ?_) (by kernel_rfl) (by kernel_rfl) (by kernel_rfl) (by kernel_rfl) (fun _ _ _ h => h) (fun oi hoi => ?_) ?_
              rotate_left
              · simp at hoi
                subst hoi
                refine ⟨by rfl, fun w' hw' => ?_⟩
                go_simp
                all_goals rfl
              try simp only [Act.put, List.setIfInBounds_toArray, List.set_cons_zero, List.set_cons_succ]
              refine later_take (i := 29) (d := 32) (v := ?_) (by kernel_rfl) (by kernel_rfl) (by kernel_rfl) (by kernel_rfl) (fun _ _ _ h => h) (fun oi hoi => ?_) ?_
              rotate_left
              · simp at hoi
                subst hoi
                refine ⟨by rfl, fun w' hw' => ?_⟩
                go_simp
                all_goals rfl
              try simp only [Act.put, List.setIfInBounds_toArray, List.set_cons_zero, List.set_cons_succ]
              refine later_take (i := 30) (d := 33) (v := ?_) (by kernel_rfl) (by kernel_rfl) (by kernel_rfl) (by kernel_rfl) (fun _ _ _ h => h) (fun oi hoi => ?_) ?_
              rotate_left
              · simp at hoi
                subst hoi
                refine ⟨by rfl, fun w' hw' => ?_⟩
                go_simp
                all_goals rfl
              try simp only [Act.put, List.setIfInBounds_toArray, List.set_cons_zero, List.set_cons_succ]
              refine later_take (i := 31) (d := 34) (v := ?_) (by kernel_rfl) (by kernel_rfl) (by kernel_rfl) (by kernel_rfl) (fun _ _ _ h => h) (fun oi hoi => ?_) ?_
              rotate_left
              · simp at hoi
                subst hoi
                refine ⟨by rfl, fun w' hw' => ?_⟩
                have hx := Blk.below (unhide A) hw'
                have x3 := hx.cell 3
                simp only [List.getElem?_toArray, List.getElem?_cons_succ, List.getElem?_cons_zero] at x3
                go_simp
                all_goals rfl
              try simp only [Act.put, List.setIfInBounds_toArray, List.set_cons_zero, List.set_cons_succ]
              refine later_one (i := 32) (by kernel_rfl) (fun oi K hoi hK => ?_)
              simp at hoi
              subst hoi
              refine ⟨by rfl, ?_⟩
              go_simp
              refine (sFraText_any text _).mono ?_
              rw [H5.out]
              rintro e wz ⟨rfl, rfl⟩
              go_simp
              refine hK.out _ _ (Below.refl _ _) ?_
              clear hK
              try simp only [Act.put, List.setIfInBounds_toArray, List.set_cons_zero, List.set_cons_succ]
              refine later_take (i := 33) (d := 36) (v := ?_) (by kernel_rfl) (by kernel_rfl) (by kernel_rfl) (by kernel_rfl) (fun _ _ _ h => h) (fun oi hoi => ?_) ?_
              rotate_left
              · simp at hoi
                subst hoi
                refine ⟨by rfl, fun w' hw' => ?_⟩
                go_simp
                all_goals rfl
              try simp only [Act.put, List.setIfInBounds_toArray, List.set_cons_zero, List.set_cons_succ]
              refine later_take (i := 34) (d := 2) (v := ?_) (by kernel_rfl) (by kernel_rfl) (by kernel_rfl) (by kernel_rfl) (fun _ _ _ h => h) (fun oi hoi => ?_) ?_
              rotate_left
              · simp at hoi
                subst hoi
                refine ⟨by rfl, fun w' hw' => ?_⟩
                go_simp
                all_goals rfl
              try simp only [Act.put, List.setIfInBounds_toArray, List.set_cons_zero, List.set_cons_succ]
              refine later_done (by kernel_rfl) ?_ _
              go_wp2_with fail
              go_ret
              exact ⟨ret_bool' HF.out.symm, unhide HB⟩
            | true =>
              skip
              refine wp_region_later (by kernel_rfl) ?_
              refine later_take (i := 0) (d := 3) (v := ?_) (by kernel_rfl) (by kernel_rfl) (by kernel_rfl) (by kernel_rfl) (fun _ _ _ h => h) (fun oi hoi => ?_) ?_
              rotate_left
              · simp at hoi
                subst hoi
                refine ⟨by rfl, fun w' hw' => ?_⟩
                go_simp
                all_goals rfl
              try simp only [Act.put, List.setIfInBounds_toArray, List.set_cons_zero, List.set_cons_succ]
              refine later_take (i := 1) (d := 4) (v := ?_) (by kernel_rfl) (by kernel_rfl) (by kernel_rfl) (by kernel_rfl) (fun _ _ _ h => h) (fun oi hoi => ?_) ?_
              rotate_left
              · simp at hoi
                subst hoi
                refine ⟨by rfl, fun w' hw' => ?_⟩
                have hx := Blk.below (unhide A) hw'
                have x0 := hx.cell 0
                simp only [List.getElem?_toArray, List.getElem?_cons_zero] at x0
                go_simp
                all_goals rfl
              try simp only [Act.put, List.setIfInBounds_toArray, List.set_cons_zero, List.set_cons_succ]
              refine later_one (i := 2) (by kernel_rfl) (fun oi K hoi hK => ?_)
              simp at hoi
              subst hoi
              refine ⟨by rfl, ?_⟩
              go_simp
              refine (l1In_any fr 0 7 _).mono ?_
              rw [H0.out]
              rintro e wz ⟨rfl, rfl⟩
              go_simp
              refine hK.out _ _ (Below.refl _ _) ?_
              clear hK
              try simp only [Act.put, List.setIfInBounds_toArray, List.set_cons_zero, List.set_cons_succ]
              refine later_take (i := 3) (d := 6) (v := ?_) (by kernel_rfl) (by kernel_rfl) (by kernel_rfl) (by kernel_rfl) (fun _ _ _ h => h) (fun oi hoi => ?_) ?_
              rotate_left
              · simp at hoi
                subst hoi
                refine ⟨by rfl, fun w' hw' => ?_⟩
                go_simp
                all_goals rfl
              try simp only [Act.put, List.setIfInBounds_toArray, List.set_cons_zero, List.set_cons_succ]
              refine later_take (i := 4) (d := 7) (v := ?_) (by kernel_rfl) (by kernel_rfl) (by kernel_rfl) (by kernel_rfl) (fun _ _ _ h => h) (fun oi hoi => ?_) ?_
              rotate_left
              · simp at hoi
                subst hoi
                refine ⟨by rfl, fun w' hw' => ?_⟩
                go_simp
                all_goals rfl
              try simp only [Act.put, List.setIfInBounds_toArray, List.set_cons_zero, List.set_cons_succ]
              refine later_take (i := 5) (d := 8) (v := ?_) (by kernel_rfl) (by kernel_rfl) (by kernel_rfl) (by kernel_rfl) (fun _ _ _ h => h) (fun oi hoi => ?_) ?_
              rotate_left
              · simp at hoi
                subst hoi
                refine ⟨by rfl, fun w' hw' => ?_⟩
                have hx := Blk.below (unhide A) hw'
                have x1 := hx.cell 1
                simp only [List.getElem?_toArray, List.getElem?_cons_succ, List.getElem?_cons_zero] at x1
                go_simp
                all_goals rfl
              try simp only [Act.put, List.setIfInBounds_toArray, List.set_cons_zero, List.set_cons_succ]
              refine later_one (i := 6) (by kernel_rfl) (fun oi K hoi hK => ?_)
              simp at hoi
              subst hoi
              refine ⟨by rfl, ?_⟩
              go_simp
              refine (sSecOk_any key _ M.out).mono ?_
              rw [H1.out]
              rintro e w1 ⟨rfl, hb⟩
              go_simp
              refine hK.out _ _ hb ?_
              clear hK
              replace A := hide ((unhide A).below hb)
              replace HB := hide (HB.out.trans (hb.mono HB.out.size))
              clear hb
              try simp only [Act.put, List.setIfInBounds_toArray, List.set_cons_zero, List.set_cons_succ]
              refine later_take (i := 7) (d := 10) (v := ?_) (by kernel_rfl) (by kernel_rfl) (by kernel_rfl) (by kernel_rfl) (fun _ _ _ h => h) (fun oi hoi => ?_) ?_
              rotate_left
              · simp at hoi
                subst hoi
                refine ⟨by rfl, fun w' hw' => ?_⟩
                go_simp
                all_goals rfl
              try simp only [Act.put, List.setIfInBounds_toArray, List.set_cons_zero, List.set_cons_succ]
              refine later_take (i := 8) (d := 11) (v := ?_) (by kernel_rfl) (by kernel_rfl) (by kernel_rfl) (by kernel_rfl) (fun _ _ _ h => h) (fun oi hoi => ?_) ?_
              rotate_left
              · simp at hoi
                subst hoi
                refine ⟨by rfl, fun w' hw' => ?_⟩
                go_simp
                all_goals rfl
              try simp only [Act.put, List.setIfInBounds_toArray, List.set_cons_zero, List.set_cons_succ]
              refine later_take (i := 9) (d := 12) (v := ?_) (by kernel_rfl) (by kernel_rfl) (by kernel_rfl) (by kernel_rfl) (fun _ _ _ h => h) (fun oi hoi => ?_) ?_
              rotate_left
              · simp at hoi
                subst hoi
                refine ⟨by rfl, fun w' hw' => ?_⟩
                go_simp
                all_goals rfl
              try simp only [Act.put, List.setIfInBounds_toArray, List.set_cons_zero, List.set_cons_succ]
              refine later_take (i := 10) (d := 13) (v := ?_) (by kernel_rfl) (by kernel_rfl) (by kernel_rfl) (by kernel_rfl) (fun _ _ _ h => h) (fun oi hoi => ?_) ?_
              rotate_left
              · simp at hoi
                subst hoi
                refine ⟨by rfl, fun w' hw' => ?_⟩
                have hx := Blk.below (unhide A) hw'
                have x1 := hx.cell 1
                simp only [List.getElem?_toArray, List.getElem?_cons_succ, List.getElem?_cons_zero] at x1
                go_simp
                all_goals rfl
              try simp only [Act.put, List.setIfInBounds_toArray, List.set_cons_zero, List.set_cons_succ]
              refine later_one (i := 11) (by kernel_rfl) (fun oi K hoi hK => ?_)
              simp at hoi
              subst hoi
              refine ⟨by rfl, ?_⟩
              go_simp
              refine (l1How_any key _ H1.out).mono ?_
              rw [how_field]
              rintro e w2 ⟨rfl, hb⟩
              go_simp
              refine hK.out _ _ hb ?_
              clear hK
              replace A := hide ((unhide A).below hb)
              replace HB := hide (HB.out.trans (hb.mono HB.out.size))
              clear hb
              try simp only [Act.put, List.setIfInBounds_toArray, List.set_cons_zero, List.set_cons_succ]
              refine later_take (i := 12) (d := 15) (v := ?_) (by kernel_rfl) (by kernel_rfl) (by kernel_rfl) (by kernel_rfl) (fun _ _ _ h => h) (fun oi hoi => ?_) ?_
              rotate_left
              · simp at hoi
                subst hoi
                refine ⟨by rfl, fun w' hw' => ?_⟩
                have hfl := field_op
                go_simp
                all_goals rfl
              try simp only [Act.put, List.setIfInBounds_toArray, List.set_cons_zero, List.set_cons_succ]
              refine later_take (i := 13) (d := 16) (v := ?_) (by kernel_rfl) (by kernel_rfl) (by kernel_rfl) (by kernel_rfl) (fun _ _ _ h => h) (fun oi hoi => ?_) ?_
              rotate_left
              · simp at hoi
                subst hoi
                refine ⟨by rfl, fun w' hw' => ?_⟩
                go_simp
                all_goals rfl
              try simp only [Act.put, List.setIfInBounds_toArray, List.set_cons_zero, List.set_cons_succ]
              refine later_take (i := 14) (d := 17) (v := ?_) (by kernel_rfl) (by kernel_rfl) (by kernel_rfl) (by kernel_rfl) (fun _ _ _ h => h) (fun oi hoi => ?_) ?_
              rotate_left
              · simp at hoi
                subst hoi
                refine ⟨by rfl, fun w' hw' => ?_⟩
                go_simp
                all_goals rfl
              try simp only [Act.put, List.setIfInBounds_toArray, List.set_cons_zero, List.set_cons_succ]
              refine later_take (i := 15) (d := 18) (v := ?_) (by kernel_rfl) (by kernel_rfl) (by kernel_rfl) (by kernel_rfl) (fun _ _ _ h => h) (fun oi hoi => ?_) ?_
              rotate_left
              · simp at hoi
                subst hoi
                refine ⟨by rfl, fun w' hw' => ?_⟩
                go_simp
                all_goals rfl
              try simp only [Act.put, List.setIfInBounds_toArray, List.set_cons_zero, List.set_cons_succ]
              refine later_take (i := 16) (d := 19) (v := ?_) (by kernel_rfl) (by kernel_rfl) (by kernel_rfl) (by kernel_rfl) (fun _ _ _ h => h) (fun oi hoi => ?_) ?_
              rotate_left
              · simp at hoi
                subst hoi
                refine ⟨by rfl, fun w' hw' => ?_⟩
                go_simp
                all_goals rfl
              try simp only [Act.put, List.setIfInBounds_toArray, List.set_cons_zero, List.set_cons_succ]
              refine later_take (i := 17) (d := 20) (v := ?_) (by kernel_rfl) (by kernel_rfl) (by kernel_rfl) (by kernel_rfl) (fun _ _ _ h => h) (fun oi hoi => ?_) ?_
              rotate_left
              · simp at hoi
                subst hoi
                refine ⟨by rfl, fun w' hw' => ?_⟩
                have hx := Blk.below (unhide A) hw'
                have x1 := hx.cell 1
                simp only [List.getElem?_toArray, List.getElem?_cons_succ, List.getElem?_cons_zero] at x1
                go_simp
                all_goals rfl
              try simp only [Act.put, List.setIfInBounds_toArray, List.set_cons_zero, List.set_cons_succ]
              refine later_take (i := 20) (d := 23) (v := ?_) (by kernel_rfl) (by kernel_rfl) (by kernel_rfl) (by kernel_rfl) (fun _ _ _ h => h) (fun oi hoi => ?_) ?_
              rotate_left
              · simp at hoi
                subst hoi
                refine ⟨by rfl, fun w' hw' => ?_⟩
                go_simp
                all_goals rfl
              try simp only [Act.put, List.setIfInBounds_toArray, List.set_cons_zero, List.set_cons_succ]
              refine later_take (i := 21) (d := 24) (v := ?_) (by kernel_rfl) (by kernel_rfl) (by kernel_rfl) (by kernel_rfl) (fun _ _ _ h => h) (fun oi hoi => ?_) ?_
              rotate_left
              · simp at hoi
                subst hoi
                refine ⟨by rfl, fun w' hw' => ?_⟩
                have hx := Blk.below (unhide A) hw'
                have x0 := hx.cell 0
                simp only [List.getElem?_toArray, List.getElem?_cons_zero] at x0
                go_simp
                all_goals rfl
              try simp only [Act.put, List.setIfInBounds_toArray, List.set_cons_zero, List.set_cons_succ]
              refine later_one (i := 18) (by kernel_rfl) (fun oi K hoi hK => ?_)
              simp at hoi
              subst hoi
              refine ⟨by rfl, ?_⟩
              go_simp
              refine (l1How_any key _ H1.out).mono ?_
              rw [how_field]
              rintro e w3 ⟨rfl, hb⟩
              go_simp
              refine hK.out _ _ hb ?_
              clear hK
              replace A := hide ((unhide A).below hb)
              replace HB := hide (HB.out.trans (hb.mono HB.out.size))
              clear hb
              try simp only [Act.put, List.setIfInBounds_toArray, List.set_cons_zero, List.set_cons_succ]
              refine later_take (i := 19) (d := 22) (v := ?_) (by kernel_rfl) (by kernel_rfl) (by kernel_rfl) (by kernel_rfl) (fun _ _ _ h => h) (fun oi hoi => ?_) ?_
              rotate_left
              · simp at hoi
                subst hoi
                refine ⟨by rfl, fun w' hw' => ?_⟩
                have hfl := field_who
                go_simp
                all_goals rfl
              try simp only [Act.put, List.setIfInBounds_toArray, List.set_cons_zero, List.set_cons_succ]
              refine later_take (i := 22) (d := 25) (v := ?_) (by kernel_rfl) (by kernel_rfl) (by kernel_rfl) (by kernel_rfl) (fun _ _ _ h => h) (fun oi hoi => ?_) ?_
              rotate_left
              · simp at hoi
                subst hoi
                refine ⟨by rfl, fun w' hw' => ?_⟩
                go_simp
                all_goals rfl
              try simp only [Act.put, List.setIfInBounds_toArray, List.set_cons_zero, List.set_cons_succ]
              refine later_take (i := 23) (d := 26) (v := ?_) (by kernel_rfl) (by kernel_rfl) (by kernel_rfl) (by kernel_rfl) (fun _ _ _ h => h) (fun oi hoi => ?_) ?_
              rotate_left
              · simp at hoi
                subst hoi
                refine ⟨by rfl, fun w' hw' => ?_⟩
                go_simp
                all_goals rfl
              try simp only [Act.put, List.setIfInBounds_toArray, List.set_cons_zero, List.set_cons_succ]
              refine later_take (i := 24) (d := 27) (v := ?_) (by kernel_rfl) (by kernel_rfl) (by kernel_rfl) (by kernel_rfl) (fun _ _ _ h => h) (fun oi hoi => ?_) ?_
              rotate_left
              · simp at hoi
                subst hoi
                refine ⟨by rfl, fun w' hw' => ?_⟩
                go_simp
                all_goals rfl
              try simp only [Act.put, List.setIfInBounds_toArray, List.set_cons_zero, List.set_cons_succ]
              refine later_take (i := 25) (d := 28) (v := ?_) (by kernel_rfl) (by kernel_rfl) (by kernel_rfl) (by kernel_rfl) (fun _ _ _ h => h) (fun oi hoi => ?_) ?_
              rotate_left
              · simp at hoi
                subst hoi
                refine ⟨by rfl, fun w' hw' => ?_⟩
                go_simp
                all_goals rfl
              try simp only [Act.put, List.setIfInBounds_toArray, List.set_cons_zero, List.set_cons_succ]
              refine later_take (i := 26) (d := 29) (v := ?_) (by kernel_rfl) (by kernel_rfl) (by kernel_rfl) (by kernel_rfl) (fun _ _ _ h => h) (fun oi hoi => ?_) ?_
              rotate_left
              · simp at hoi
                subst hoi
                refine ⟨by rfl, fun w' hw' => ?_⟩
                have hx := Blk.below (unhide A) hw'
                have x2 := hx.cell 2
                simp only [List.getElem?_toArray, List.getElem?_cons_succ, List.getElem?_cons_zero] at x2
                go_simp
                all_goals rfl
              try simp only [Act.put, List.setIfInBounds_toArray, List.set_cons_zero, List.set_cons_succ]
              refine later_one (i := 27) (by kernel_rfl) (fun oi K hoi hK => ?_)
              simp at hoi
              subst hoi
              refine ⟨by rfl, ?_⟩
              go_simp
              refine (l1In_any n 1 999 _).mono ?_
              rw [H4.out]
              rintro e wz ⟨rfl, rfl⟩
              go_simp
              refine hK.out _ _ (Below.refl _ _) ?_
              clear hK
              try simp only [Act.put, List.setIfInBounds_toArray, List.set_cons_zero, List.set_cons_succ]
              refine later_take (i := 28) (d := 31) (v := ?_) (by kernel_rfl) (by kernel_rfl) (by kernel_rfl) (by kernel_rfl) (fun _ _ _ h => h) (fun oi hoi => ?_) ?_
              rotate_left
              · simp at hoi
                subst hoi
                refine ⟨by rfl, fun w' hw' => ?_⟩
                go_simp
                all_goals rfl
              try simp only [Act.put, List.setIfInBounds_toArray, List.set_cons_zero, List.set_cons_succ]
              refine later_take (i := 29) (d := 32) (v := ?_) (by kernel_rfl) (by kernel_rfl) (by kernel_rfl) (by kernel_rfl) (fun _ _ _ h => h) (fun oi hoi => ?_) ?_
              rotate_left
              · simp at hoi
                subst hoi
                refine ⟨by rfl, fun w' hw' => ?_⟩
                go_simp
                all_goals rfl
              try simp only [Act.put, List.setIfInBounds_toArray, List.set_cons_zero, List.set_cons_succ]
              refine later_take (i := 30) (d := 33) (v := ?_) (by kernel_rfl) (by kernel_rfl) (by kernel_rfl) (by kernel_rfl) (fun _ _ _ h => h) (fun oi hoi => ?_) ?_
              rotate_left
              · simp at hoi
                subst hoi
                refine ⟨by rfl, fun w' hw' => ?_⟩
                go_simp
                all_goals rfl
              try simp only [Act.put, List.setIfInBounds_toArray, List.set_cons_zero, List.set_cons_succ]
              refine later_take (i := 31) (d := 34) (v := ?_) (by kernel_rfl) (by kernel_rfl) (by kernel_rfl) (by kernel_rfl) (fun _ _ _ h => h) (fun oi hoi => ?_) ?_
              rotate_left
              · simp at hoi
                subst hoi
                refine ⟨by rfl, fun w' hw' => ?_⟩
                have hx := Blk.below (unhide A) hw'
                have x3 := hx.cell 3
                simp only [List.getElem?_toArray, List.getElem?_cons_succ, List.getElem?_cons_zero] at x3
                go_simp
                all_goals rfl
              try simp only [Act.put, List.setIfInBounds_toArray, List.set_cons_zero, List.set_cons_succ]
              refine later_one (i := 32) (by kernel_rfl) (fun oi K hoi hK => ?_)
              simp at hoi
              subst hoi
              refine ⟨by rfl, ?_⟩
              go_simp
              refine (sFraText_any text _).mono ?_
              rw [H5.out]
              rintro e wz ⟨rfl, rfl⟩
              go_simp
              refine hK.out _ _ (Below.refl _ _) ?_
              clear hK
              try simp only [Act.put, List.setIfInBounds_toArray, List.set_cons_zero, List.set_cons_succ]
              refine later_take (i := 33) (d := 36) (v := ?_) (by kernel_rfl) (by kernel_rfl) (by kernel_rfl) (by kernel_rfl) (fun _ _ _ h => h) (fun oi hoi => ?_) ?_
              rotate_left
              · simp at hoi
                subst hoi
                refine ⟨by rfl, fun w' hw' => ?_⟩
                go_simp
                all_goals rfl
              try simp only [Act.put, List.setIfInBounds_toArray, List.set_cons_zero, List.set_cons_succ]
              refine later_take (i := 34) (d := 2) (v := ?_) (by kernel_rfl) (by kernel_rfl) (by kernel_rfl) (by kernel_rfl) (fun _ _ _ h => h) (fun oi hoi => ?_) ?_
              rotate_left
              · simp at hoi
                subst hoi
                refine ⟨by rfl, fun w' hw' => ?_⟩
                go_simp
                all_goals rfl
              try simp only [Act.put, List.setIfInBounds_toArray, List.set_cons_zero, List.set_cons_succ]
              refine later_done (by kernel_rfl) ?_ _
              go_wp2_with fail
              go_ret
              exact ⟨ret_bool' HE.out.symm, unhide HB⟩
#print axioms sFraOk_any
end Go.Proofs.Ytgdhlnfigcaepaa
