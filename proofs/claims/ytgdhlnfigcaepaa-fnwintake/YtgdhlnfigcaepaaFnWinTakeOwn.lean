/-
  Proved: at every code the law FnWinTake returns true (what a window takes it has not, and is not too far behind the greatest; behind that it has it, and takes it no more; the greatest is the greatest; and what else it has it had, just without what is too far behind then), and nothing that was there is written. No condition.
-/
import Derived.Test.YtgdhlnfigcaepaaFnWinTakeB1
import Derived.Test.YtgdhlnfigcaepaaFnWinTakeB10
import Derived.Test.YtgdhlnfigcaepaaFnWinTakeB11
import Derived.Test.YtgdhlnfigcaepaaFnWinTakeB13
namespace Go.Proofs.Ytgdhlnfigcaepaa
open Go.ChangeShapes Go.WideShapes Go.ChangeAt Go.RowKit
open Go.ChangeMaps (open_string shut_string)
set_option linter.unusedVariables false

theorem winTake_len2 (x : Win) (n : Int) : (winTake x n).1.seen.length ≤ 8 := by
  unfold winTake
  split
  · rename_i h
    have hn : 1 ≤ n ∧ n ≤ 999 := by have := h.2; unfold inB at this; simpa using this
    have := win_facts (take_seen h.1 hn)
    exact falls_len this.2.2.2 this.2.2.1.1
  · simp [Win.none]
theorem winTake_not {x : Win} {n : Int} (h : ¬ (winOk x = true ∧ 1 ≤ n ∧ n ≤ 999)) : winTake x n = (Win.none, false) := by
  unfold winTake
  rw [if_neg (fun q => h ⟨q.1, by have := q.2; unfold inB at this; simpa using this⟩)]
theorem winTake_yes {x : Win} {n : Int} (hx : winOk x = true) (hn : 1 ≤ n ∧ n ≤ 999) : winTake x n = takeW x n := by
  unfold winTake
  rw [if_pos ⟨hx, by unfold inB; simp; exact hn⟩]
theorem winTake_late {x : Win} {n : Int} (hx : winOk x = true) (hn : 1 ≤ n ∧ n ≤ 999) (h : lateB x n = true) : winTake x n = (x, false) := by
  rw [winTake_yes hx hn]; unfold takeW; rw [h]; rfl
theorem winTake_took {x : Win} {n : Int} (hx : winOk x = true) (hn : 1 ≤ n ∧ n ≤ 999) (h : lateB x n = false) :
    ∃ y : Win, winTake x n = (y, true) ∧ winOk y = true ∧ y.top = max x.top n ∧ n ∈ y.seen ∧ winTake y n = (y, false) ∧ (∀ m, m ∈ x.seen → (m ∈ y.seen ↔ y.top - 8 < m)) ∧ y.seen.length ≤ x.seen.length + 1 ∧ y.key = x.key := by
  obtain ⟨f1, f2⟩ := took_facts hx hn h
  obtain ⟨l1, l2⟩ := late_no h
  obtain ⟨_, _, k3, k4⟩ := win_facts hx
  refine ⟨tookW x n, by rw [winTake_yes hx hn]; unfold takeW; rw [h]; rfl, f1, rfl, (f2 n).2 (.inl rfl), ?_, fun m hm => ?_, ?_, rfl⟩
  · refine winTake_late f1 hn ?_
    unfold lateB
    rw [decide_eq_true ((f2 n).2 (.inl rfl)), Bool.or_true]
  · rw [f2 m]
    have e : (tookW x n).top = max x.top n := rfl
    rw [e]
    constructor
    · rintro (q | q)
      · exact absurd (by rw [← q]; exact hm) l2
      · exact q.2
    · intro q
      exact .inr ⟨hm, q⟩
  · unfold tookW
    simp only
    exact seenOf_len (by omega) (falls_sorted k4)
theorem late_dec (x : Win) (n : Int) : (!(lateB x n)) = (!(decide (n ∈ x.seen)) && decide (x.top - 8 < n)) := by
  unfold lateB
  by_cases h : n ≤ x.top - 8
  · rw [decide_eq_true h, decide_eq_false (show ¬ x.top - 8 < n by omega)]; simp
  · rw [decide_eq_false h, decide_eq_true (show x.top - 8 < n by omega)]; simp
theorem blk_next {w : World} {b : Nat} {t : TypeId} {cs : Array Value} (h : Blk w b t cs) (ds : Array Value) : ∃ g, w.heap.size = g ∧ Blk (w.alloc (.cells ds 35)) g 35 ds ∧ Below w.heap.size w (w.alloc (.cells ds 35)) :=
  ⟨_, rfl, Blk.new _ _ _, (Below.refl _ _).alloc (Nat.le_refl _) _⟩

set_option maxRecDepth 100000 in
set_option maxHeartbeats 4000000 in
theorem walk_FnWinTake (a0 : Option Addr) (len0 cap0 : Nat) (z0 : List Int) (w : World) (w0 : IsRow .u8 w a0 len0 cap0 z0) :
    Calls Try.prog 9 #[.slice a0 len0 cap0] w fun e w' => e = .returned (.bool true) ∧ Below w.heap.size w w' := by
  have hR := hide w0
  clear w0
  by_cases h : (1048576 : Int) < (len0 : Int)
  · go_enter Try.func9, Try.ntmps9
    go_wp2_with fail
    go_ret
    exact ⟨rfl, Below.refl _ _⟩
  have h2 : decide ((1048576 : Int) < (len0 : Int)) = false := by simpa using h
  clear h
  go_enter Try.func9, Try.ntmps9
  go_wp2_with fail
  refine (DrawWinTake_any a0 len0 cap0 z0 _ (unhide hR)).mono ?_
  rintro e w1 ⟨⟨key, top, xs⟩, v, n, rfl, ho, hk, hl, htb, hnb, hb1⟩
  simp only at hk hl htb ho
  obtain ⟨so, sc, rfl⟩ := row_form' ho
  have M : Hid (key.size ≤ maxLen) := le_maxLen (by omega)
  have HB := hide hb1
  have IX := hide ho.irow
  clear hb1 ho hk
  have hlen := winTake_len2 ⟨key, top, xs⟩ n
  have HIT := hide (iWinTake_any ⟨key, top, xs⟩ (.slice so xs.length sc) n)
  have HST := hide (sWinTake_any ⟨key, top, xs⟩ (.slice so xs.length sc) n)
  obtain ⟨sn, hsn⟩ : ∃ k, k = xs.length := ⟨_, rfl⟩
  have HSN := hide hsn
  rw [← hsn] at IX HIT HST ⊢
  clear hsn
  have HWT : Hid (∃ T, T = winTake ⟨key, top, xs⟩ n) := ⟨_, rfl⟩
  obtain ⟨⟨⟨tk, tt, ts⟩, tb⟩, hT⟩ := HWT.out
  rw [← hT] at hlen HIT HST
  have HT := hide hT
  simp only at hlen HIT HST
  clear hT HWT
  have A := hide (Blk.new w1 35 (winC key top (.slice so sn sc)))
  have hb : Below w1.heap.size w1 (w1.alloc (.cells (winC key top (.slice so sn sc)) 35)) := (Below.refl _ _).alloc (Nat.le_refl _) _
  replace IX := hide ((unhide IX).below hb)
  replace HB := hide (HB.out.trans (hb.mono HB.out.size))
  clear hb
  have c0 := (unhide A).cell 0
  have c1 := (unhide A).cell 1
  have c2 := (unhide A).cell 2
  simp only [List.getElem?_toArray, List.getElem?_cons_zero, List.getElem?_cons_succ] at c0 c1 c2
  go_wp2_with fail
  clear c0 c1 c2
  generalize w1.alloc (.cells (winC key top (.slice so sn sc)) 35) = W1 at *
  generalize w1.heap.size = xb at *
  refine ((unhide HIT) _ (unhide IX) M.out (by have := HSN.out; omega)).mono ?_
  rintro e w2 ⟨gv, rfl, ho, hb⟩
  obtain ⟨go, gc, rfl⟩ := row_form' ho
  have IG := hide ho.irow
  clear ho
  replace IX := hide ((unhide IX).below hb)
  replace A := hide ((unhide A).below hb)
  replace HB := hide (HB.out.trans (hb.mono HB.out.size))
  clear hb
  have G := hide (Blk.new w2 35 (winC tk tt (.slice go ts.length gc)))
  have hb : Below w2.heap.size w2 (w2.alloc (.cells (winC tk tt (.slice go ts.length gc)) 35)) := (Below.refl _ _).alloc (Nat.le_refl _) _
  replace IX := hide ((unhide IX).below hb)
  replace A := hide ((unhide A).below hb)
  replace IG := hide ((unhide IG).below hb)
  replace HB := hide (HB.out.trans (hb.mono HB.out.size))
  clear hb
  have c0 := (unhide A).cell 0
  have c1 := (unhide A).cell 1
  have c2 := (unhide A).cell 2
  simp only [List.getElem?_toArray, List.getElem?_cons_zero, List.getElem?_cons_succ] at c0 c1 c2
  go_wp2_with fail
  clear c0 c1 c2
  generalize w2.alloc (.cells (winC tk tt (.slice go ts.length gc)) 35) = W2 at *
  generalize w2.heap.size = gb at *
  refine ((unhide HST) _ (unhide IX) M.out (by have := HSN.out; omega)).mono ?_
  rintro e w3 ⟨hv, rfl, ho, hb⟩
  obtain ⟨hO, hc, rfl⟩ := row_form' ho
  have IH := hide ho.irow
  clear ho HIT HST
  replace IX := hide ((unhide IX).below hb)
  replace A := hide ((unhide A).below hb)
  replace IG := hide ((unhide IG).below hb)
  replace G := hide ((unhide G).below hb)
  replace HB := hide (HB.out.trans (hb.mono HB.out.size))
  clear hb
  have H := hide (Blk.new w3 35 (winC tk tt (.slice hO ts.length hc)))
  have hb : Below w3.heap.size w3 (w3.alloc (.cells (winC tk tt (.slice hO ts.length hc)) 35)) := (Below.refl _ _).alloc (Nat.le_refl _) _
  replace IX := hide ((unhide IX).below hb)
  replace A := hide ((unhide A).below hb)
  replace IG := hide ((unhide IG).below hb)
  replace G := hide ((unhide G).below hb)
  replace IH := hide ((unhide IH).below hb)
  replace HB := hide (HB.out.trans (hb.mono HB.out.size))
  clear hb
  go_wp2_with fail

  generalize w3.alloc (.cells (winC tk tt (.slice hO ts.length hc)) 35) = W3 at *
  generalize w3.heap.size = hb7 at *
  replace IX := hide ((unhide IX).below (Below.refl W3.heap.size W3).drew)
  replace A := hide ((unhide A).below (Below.refl W3.heap.size W3).drew)
  replace IG := hide ((unhide IG).below (Below.refl W3.heap.size W3).drew)
  replace G := hide ((unhide G).below (Below.refl W3.heap.size W3).drew)
  replace IH := hide ((unhide IH).below (Below.refl W3.heap.size W3).drew)
  replace H := hide ((unhide H).below (Below.refl W3.heap.size W3).drew)
  replace HB : Hid (Below w.heap.size w W3.drew) := HB.out.drew
  obtain ⟨ro, hro⟩ : ∃ b, winOk ⟨key, top, xs⟩ = b := ⟨_, rfl⟩
  have HRO := hide hro
  clear hro
  have hcc : (ro != ro) = false := by cases ro <;> rfl
  have htt : (tb != tb) = false := by cases tb <;> rfl
  refine wp_region_later (by kernel_rfl) ?_
  refine later_take (i := 0) (d := 32) (v := ?_) (by kernel_rfl) (by kernel_rfl) (by kernel_rfl) (by kernel_rfl) (fun _ _ _ h => h) (fun oi hoi => ?_) ?_
  rotate_left
  · simp at hoi
    subst hoi
    refine ⟨by rfl, fun w' hw' => ?_⟩
    have hx := Blk.below (unhide G) hw'
    have x0 := hx.cell 0
    have x1 := hx.cell 1
    have x2 := hx.cell 2
    simp only [List.getElem?_toArray, List.getElem?_cons_succ, List.getElem?_cons_zero] at x0 x1 x2
    go_simp
    all_goals rfl
  try simp only [Act.put, List.setIfInBounds_toArray, List.set_cons_zero, List.set_cons_succ]
  refine later_take (i := 2) (d := 34) (v := ?_) (by kernel_rfl) (by kernel_rfl) (by kernel_rfl) (by kernel_rfl) (fun _ _ _ h => h) (fun oi hoi => ?_) ?_
  rotate_left
  · simp at hoi
    subst hoi
    refine ⟨by rfl, fun w' hw' => ?_⟩
    have hx := Blk.below (unhide H) hw'
    have x0 := hx.cell 0
    have x1 := hx.cell 1
    have x2 := hx.cell 2
    simp only [List.getElem?_toArray, List.getElem?_cons_succ, List.getElem?_cons_zero] at x0 x1 x2
    go_simp
    all_goals rfl
  try simp only [Act.put, List.setIfInBounds_toArray, List.set_cons_zero, List.set_cons_succ]
  refine later_two (i := 1) (j := 3) (by kernel_rfl) (fun oi K hoi hK => ?_) (fun oi K hoi hK => ?_)
  · simp at hoi
    subst hoi
    refine ⟨by rfl, ?_⟩
    go_simp
    obtain ⟨g1, hg1, e9, hb⟩ := blk_next (unhide A) (winC tk tt (.slice go ts.length gc))
    have hb2 := hb
    refine hK.out _ _ hb2 ?_
    clear hK hb2
    first | rw [hg1] | rw [show W3.heap.size = g1 from hg1] | (rw [World.size_alloc] at hg1; rw [show W3.heap.size + 1 = g1 from hg1])
    replace IX := hide ((unhide IX).below hb)
    replace A := hide ((unhide A).below hb)
    replace IG := hide ((unhide IG).below hb)
    replace G := hide ((unhide G).below hb)
    replace IH := hide ((unhide IH).below hb)
    replace H := hide ((unhide H).below hb)
    try (replace E1 := hide ((unhide E1).below hb))
    try (replace E3 := hide ((unhide E3).below hb))
    have E1 := hide e9
    replace HB := hide (HB.out.trans (hb.mono HB.out.size))
    clear hb e9 hg1
    try simp only [Act.put, List.setIfInBounds_toArray, List.set_cons_zero, List.set_cons_succ]
    refine later_one (i := 3) (by kernel_rfl) (fun oi K hoi hK => ?_)
    simp at hoi
    subst hoi
    refine ⟨by rfl, ?_⟩
    go_simp
    obtain ⟨g3, hg3, e9, hb⟩ := blk_next (unhide A) (winC tk tt (.slice hO ts.length hc))
    have hb2 := hb
    refine hK.out _ _ hb2 ?_
    clear hK hb2
    first | rw [hg3] | rw [show W3.heap.size = g3 from hg3] | (rw [World.size_alloc] at hg3; rw [show W3.heap.size + 1 = g3 from hg3])
    replace IX := hide ((unhide IX).below hb)
    replace A := hide ((unhide A).below hb)
    replace IG := hide ((unhide IG).below hb)
    replace G := hide ((unhide G).below hb)
    replace IH := hide ((unhide IH).below hb)
    replace H := hide ((unhide H).below hb)
    try (replace E1 := hide ((unhide E1).below hb))
    try (replace E3 := hide ((unhide E3).below hb))
    have E3 := hide e9
    replace HB := hide (HB.out.trans (hb.mono HB.out.size))
    clear hb e9 hg3
    try simp only [Act.put, List.setIfInBounds_toArray, List.set_cons_zero, List.set_cons_succ]
    refine later_one (i := 4) (by kernel_rfl) (fun oi K hoi hK => ?_)
    simp at hoi
    subst hoi
    refine ⟨by rfl, ?_⟩
    go_simp
    refine (keWins_one ⟨tk, tt, ts⟩ _ _ _ _ _ (unhide E1) (unhide E3) (unhide IG) (unhide IH)).mono ?_
    rintro e w4 ⟨rfl, hb⟩
    go_simp
    refine hK.out _ _ hb ?_
    clear hK
    replace IX := hide ((unhide IX).below hb)
    replace A := hide ((unhide A).below hb)
    replace IG := hide ((unhide IG).below hb)
    replace G := hide ((unhide G).below hb)
    replace IH := hide ((unhide IH).below hb)
    replace H := hide ((unhide H).below hb)
    replace HB := hide (HB.out.trans (hb.mono HB.out.size))
    clear hb
    clear E1 E3
    try simp only [Act.put, List.setIfInBounds_toArray, List.set_cons_zero, List.set_cons_succ]
    refine later_take (i := 5) (d := 37) (v := ?_) (by kernel_rfl) (by kernel_rfl) (by kernel_rfl) (by kernel_rfl) (fun _ _ _ h => h) (fun oi hoi => ?_) ?_
    rotate_left
    · simp at hoi
      subst hoi
      refine ⟨by rfl, fun w' hw' => ?_⟩
      go_simp
      all_goals rfl
    try simp only [Act.put, List.setIfInBounds_toArray, List.set_cons_zero, List.set_cons_succ]
    refine later_take (i := 6) (d := 38) (v := ?_) (by kernel_rfl) (by kernel_rfl) (by kernel_rfl) (by kernel_rfl) (fun _ _ _ h => h) (fun oi hoi => ?_) ?_
    rotate_left
    · simp at hoi
      subst hoi
      refine ⟨by rfl, fun w' hw' => ?_⟩
      go_simp
      all_goals rfl
    try simp only [Act.put, List.setIfInBounds_toArray, List.set_cons_zero, List.set_cons_succ]
    refine later_take (i := 7) (d := 39) (v := ?_) (by kernel_rfl) (by kernel_rfl) (by kernel_rfl) (by kernel_rfl) (fun _ _ _ h => h) (fun oi hoi => ?_) ?_
    rotate_left
    · simp at hoi
      subst hoi
      refine ⟨by rfl, fun w' hw' => ?_⟩
      go_simp
      all_goals rfl
    try simp only [Act.put, List.setIfInBounds_toArray, List.set_cons_zero, List.set_cons_succ]
    refine later_take (i := 8) (d := 40) (v := ?_) (by kernel_rfl) (by kernel_rfl) (by kernel_rfl) (by kernel_rfl) (fun _ _ _ h => h) (fun oi hoi => ?_) ?_
    rotate_left
    · simp at hoi
      subst hoi
      refine ⟨by rfl, fun w' hw' => ?_⟩
      go_simp
      all_goals rfl
    try simp only [Act.put, List.setIfInBounds_toArray, List.set_cons_zero, List.set_cons_succ]
    refine later_take (i := 9) (d := 41) (v := ?_) (by kernel_rfl) (by kernel_rfl) (by kernel_rfl) (by kernel_rfl) (fun _ _ _ h => h) (fun oi hoi => ?_) ?_
    rotate_left
    · simp at hoi
      subst hoi
      refine ⟨by rfl, fun w' hw' => ?_⟩
      go_simp
      all_goals rfl
    try simp only [Act.put, List.setIfInBounds_toArray, List.set_cons_zero, List.set_cons_succ]
    refine later_take (i := 10) (d := 42) (v := ?_) (by kernel_rfl) (by kernel_rfl) (by kernel_rfl) (by kernel_rfl) (fun _ _ _ h => h) (fun oi hoi => ?_) ?_
    rotate_left
    · simp at hoi
      subst hoi
      refine ⟨by rfl, fun w' hw' => ?_⟩
      go_simp
      all_goals rfl
    try simp only [Act.put, List.setIfInBounds_toArray, List.set_cons_zero, List.set_cons_succ]
    refine later_take (i := 11) (d := 43) (v := ?_) (by kernel_rfl) (by kernel_rfl) (by kernel_rfl) (by kernel_rfl) (fun _ _ _ h => h) (fun oi hoi => ?_) ?_
    rotate_left
    · simp at hoi
      subst hoi
      refine ⟨by rfl, fun w' hw' => ?_⟩
      go_simp
      all_goals rfl
    try simp only [Act.put, List.setIfInBounds_toArray, List.set_cons_zero, List.set_cons_succ]
    refine later_take (i := 12) (d := 44) (v := ?_) (by kernel_rfl) (by kernel_rfl) (by kernel_rfl) (by kernel_rfl) (fun _ _ _ h => h) (fun oi hoi => ?_) ?_
    rotate_left
    · simp at hoi
      subst hoi
      refine ⟨by rfl, fun w' hw' => ?_⟩
      have hx := Blk.below (unhide A) hw'
      have x0 := hx.cell 0
      have x1 := hx.cell 1
      have x2 := hx.cell 2
      simp only [List.getElem?_toArray, List.getElem?_cons_succ, List.getElem?_cons_zero] at x0 x1 x2
      go_simp
      all_goals rfl
    try simp only [Act.put, List.setIfInBounds_toArray, List.set_cons_zero, List.set_cons_succ]
    refine later_take (i := 14) (d := 46) (v := ?_) (by kernel_rfl) (by kernel_rfl) (by kernel_rfl) (by kernel_rfl) (fun _ _ _ h => h) (fun oi hoi => ?_) ?_
    rotate_left
    · simp at hoi
      subst hoi
      refine ⟨by rfl, fun w' hw' => ?_⟩
      have hx := Blk.below (unhide A) hw'
      have x0 := hx.cell 0
      have x1 := hx.cell 1
      have x2 := hx.cell 2
      simp only [List.getElem?_toArray, List.getElem?_cons_succ, List.getElem?_cons_zero] at x0 x1 x2
      go_simp
      all_goals rfl
    try simp only [Act.put, List.setIfInBounds_toArray, List.set_cons_zero, List.set_cons_succ]
    refine later_one (i := 13) (by kernel_rfl) (fun oi K hoi hK => ?_)
    simp at hoi
    subst hoi
    refine ⟨by rfl, ?_⟩
    go_simp
    refine (iWinOk_any ⟨key, top, xs⟩ _ _ (unhide IX) M.out (by simp only; omega)).mono ?_
    rw [HRO.out]
    rintro e w5 ⟨rfl, hb⟩
    go_simp
    refine hK.out _ _ hb ?_
    clear hK
    replace IX := hide ((unhide IX).below hb)
    replace A := hide ((unhide A).below hb)
    replace IG := hide ((unhide IG).below hb)
    replace G := hide ((unhide G).below hb)
    replace IH := hide ((unhide IH).below hb)
    replace H := hide ((unhide H).below hb)
    replace HB := hide (HB.out.trans (hb.mono HB.out.size))
    clear hb
    try simp only [Act.put, List.setIfInBounds_toArray, List.set_cons_zero, List.set_cons_succ]
    refine later_one (i := 15) (by kernel_rfl) (fun oi K hoi hK => ?_)
    simp at hoi
    subst hoi
    refine ⟨by rfl, ?_⟩
    go_simp
    refine (sWinOk_any ⟨key, top, xs⟩ _ _ (unhide IX) M.out (by simp only; omega)).mono ?_
    rw [HRO.out]
    rintro e w6 ⟨rfl, hb⟩
    go_simp
    refine hK.out _ _ hb ?_
    clear hK
    replace IX := hide ((unhide IX).below hb)
    replace A := hide ((unhide A).below hb)
    replace IG := hide ((unhide IG).below hb)
    replace G := hide ((unhide G).below hb)
    replace IH := hide ((unhide IH).below hb)
    replace H := hide ((unhide H).below hb)
    replace HB := hide (HB.out.trans (hb.mono HB.out.size))
    clear hb
    try simp only [Act.put, List.setIfInBounds_toArray, List.set_cons_zero, List.set_cons_succ]
    refine later_take (i := 16) (d := 48) (v := ?_) (by kernel_rfl) (by kernel_rfl) (by kernel_rfl) (by kernel_rfl) (fun _ _ _ h => h) (fun oi hoi => ?_) ?_
    rotate_left
    · simp at hoi
      subst hoi
      refine ⟨by rfl, fun w' hw' => ?_⟩
      go_simp
      all_goals rfl
    try simp only [Act.put, List.setIfInBounds_toArray, List.set_cons_zero, List.set_cons_succ]
    refine later_take (i := 17) (d := 49) (v := ?_) (by kernel_rfl) (by kernel_rfl) (by kernel_rfl) (by kernel_rfl) (fun _ _ _ h => h) (fun oi hoi => ?_) ?_
    rotate_left
    · simp at hoi
      subst hoi
      refine ⟨by rfl, fun w' hw' => ?_⟩
      go_simp
      all_goals rfl
    try simp only [Act.put, List.setIfInBounds_toArray, List.set_cons_zero, List.set_cons_succ]
    refine later_done (by kernel_rfl) ?_ _
    have c0 := (unhide A).cell 0
    have c1 := (unhide A).cell 1
    have c2 := (unhide A).cell 2
    simp only [List.getElem?_toArray, List.getElem?_cons_zero, List.getElem?_cons_succ] at c0 c1 c2
    go_wp2_with fail
    clear c0 c1 c2
    refine (sWinOk_any ⟨key, top, xs⟩ _ _ (unhide IX) M.out (by simp only; omega)).mono ?_
    rw [HRO.out]
    rintro e w7 ⟨rfl, hb⟩
    replace IX := hide ((unhide IX).below hb)
    replace A := hide ((unhide A).below hb)
    replace IG := hide ((unhide IG).below hb)
    replace G := hide ((unhide G).below hb)
    replace IH := hide ((unhide IH).below hb)
    replace H := hide ((unhide H).below hb)
    replace HB := hide (HB.out.trans (hb.mono HB.out.size))
    clear hb
    by_cases hin : ro = true ∧ 1 ≤ n ∧ n ≤ 999
    rotate_left
    · have HF := hide (HT.out.trans (winTake_not (by rw [HRO.out]; exact hin)))
      have hF := HF.out
      simp only [Prod.mk.injEq, Win.none, Win.mk.injEq] at hF
      obtain ⟨⟨rfl, rfl, rfl⟩, rfl⟩ := hF
      have g0 := (unhide G).cell 0
      simp only [List.getElem?_toArray, List.getElem?_cons_zero] at g0
      have hin2 : ro = false ∨ n < 1 ∨ 999 < n := by
        cases ro with
        | false => exact .inl rfl
        | true => exact .inr (by have : ¬ (1 ≤ n ∧ n ≤ 999) := fun q => hin ⟨rfl, q⟩; omega)
      clear hin HF
      rcases hin2 with rfl | hn | hn
      · go_wp2_with fail
        refine (keOk_any _).mono ?_
        rintro e w8 ⟨rfl, hb⟩
        replace HB := hide (HB.out.trans (hb.mono HB.out.size))
        clear hb
        go_wp2_with fail
        go_ret
        exact ⟨rfl, unhide HB⟩
      · cases ro
        all_goals
          go_wp2_with fail
          refine (keOk_any _).mono ?_
          rintro e w8 ⟨rfl, hb⟩
          replace HB := hide (HB.out.trans (hb.mono HB.out.size))
          clear hb
          go_wp2_with fail
          go_ret
          exact ⟨rfl, unhide HB⟩
      · have hn1 : decide (n < 1) = false := by simp; omega
        cases ro
        all_goals
          go_wp2_with fail
          refine (keOk_any _).mono ?_
          rintro e w8 ⟨rfl, hb⟩
          replace HB := hide (HB.out.trans (hb.mono HB.out.size))
          clear hb
          go_wp2_with fail
          go_ret
          exact ⟨rfl, unhide HB⟩
    obtain ⟨rfl, hn1, hn2⟩ := hin
    have hd1 : decide (n < 1) = false := by simp; omega
    have hd2 : decide (999 < n) = false := by simp; omega
    obtain ⟨_, _, f3, f4⟩ := win_facts HRO.out
    simp only at f3 f4
    have i8 : IntKind.i64.wrap (top - 8) = top - 8 := by simp [IntKind.wrap, IntKind.bits, IntKind.signed]; omega
    have c0 := (unhide A).cell 0
    have c1 := (unhide A).cell 1
    have c2 := (unhide A).cell 2
    simp only [List.getElem?_toArray, List.getElem?_cons_zero, List.getElem?_cons_succ] at c0 c1 c2
    go_wp2_with fail
    refine (keIn_any _ xs n _ (unhide IX)).mono ?_
    have HLD : Hid ((!(lateB ⟨key, top, xs⟩ n)) = (!(decide (n ∈ xs)) && decide (top - 8 < n))) := late_dec ⟨key, top, xs⟩ n
    obtain ⟨im, him⟩ : ∃ b, decide (n ∈ xs) = b := ⟨_, rfl⟩
    rw [him] at HLD ⊢
    rintro e wz ⟨rfl, rfl⟩
    cases hlt : lateB ⟨key, top, xs⟩ n with
    | true =>
      rw [hlt] at HLD
      have hF := HT.out.trans (winTake_late HRO.out ⟨hn1, hn2⟩ hlt)
      simp only [Prod.mk.injEq, Win.mk.injEq] at hF
      obtain ⟨⟨rfl, rfl, rfl⟩, rfl⟩ := hF
      have HX2 : im = true ∨ (im = false ∧ decide (tt - 8 < n) = false) := by
        have := HLD.out
        cases im with
        | true => exact .inl rfl
        | false => exact .inr ⟨rfl, by simpa using this.symm⟩
      clear hlt him HLD
      rcases HX2 with rfl | ⟨rfl, hx2⟩
      · skip
        have g0 := (unhide G).cell 0
        have g1 := (unhide G).cell 1
        have g2 := (unhide G).cell 2
        simp only [List.getElem?_toArray, List.getElem?_cons_zero, List.getElem?_cons_succ] at g0 g1 g2
        have E1 := hide (Blk.new wz 35 (winC tk tt (.slice go ts.length gc)))
        have hb : Below wz.heap.size wz (wz.alloc (.cells (winC tk tt (.slice go ts.length gc)) 35)) := (Below.refl _ _).alloc (Nat.le_refl _) _
        have A2 := hide ((unhide A).below hb)
        have hb3 : Below wz.heap.size wz ((wz.alloc (.cells (winC tk tt (.slice go ts.length gc)) 35)).alloc (.cells (winC tk tt (.slice so sn sc)) 35)) := hb.alloc hb.size _
        have E3 := hide (Blk.new (wz.alloc (.cells (winC tk tt (.slice go ts.length gc)) 35)) 35 (winC tk tt (.slice so sn sc)))
        replace E1 := hide ((unhide E1).alloc (.cells (winC tk tt (.slice so sn sc)) 35))
        have HB3 := hide (HB.out.trans (hb3.mono HB.out.size))
        have IX3 := hide ((unhide IX).below hb3)
        have IG3 := hide ((unhide IG).below hb3)
        simp only [World.size_alloc] at E3
        clear hb hb3
        have a0 := (unhide A2).cell 0
        have a1 := (unhide A2).cell 1
        have a2 := (unhide A2).cell 2
        simp only [List.getElem?_toArray, List.getElem?_cons_zero, List.getElem?_cons_succ] at a0 a1 a2
        go_wp2_with fail
        refine (keWins_one ⟨tk, tt, ts⟩ _ _ _ _ _ (unhide E1) (unhide E3) (unhide IG3) (unhide IX3)).mono ?_
        rintro e w9 ⟨rfl, hb⟩
        have HB4 := hide (HB3.out.trans (hb.mono HB3.out.size))
        clear hb
        go_wp2_with fail
        go_ret
        exact ⟨rfl, unhide HB4⟩
      · skip
        have g0 := (unhide G).cell 0
        have g1 := (unhide G).cell 1
        have g2 := (unhide G).cell 2
        simp only [List.getElem?_toArray, List.getElem?_cons_zero, List.getElem?_cons_succ] at g0 g1 g2
        have E1 := hide (Blk.new wz 35 (winC tk tt (.slice go ts.length gc)))
        have hb : Below wz.heap.size wz (wz.alloc (.cells (winC tk tt (.slice go ts.length gc)) 35)) := (Below.refl _ _).alloc (Nat.le_refl _) _
        have A2 := hide ((unhide A).below hb)
        have hb3 : Below wz.heap.size wz ((wz.alloc (.cells (winC tk tt (.slice go ts.length gc)) 35)).alloc (.cells (winC tk tt (.slice so sn sc)) 35)) := hb.alloc hb.size _
        have E3 := hide (Blk.new (wz.alloc (.cells (winC tk tt (.slice go ts.length gc)) 35)) 35 (winC tk tt (.slice so sn sc)))
        replace E1 := hide ((unhide E1).alloc (.cells (winC tk tt (.slice so sn sc)) 35))
        have HB3 := hide (HB.out.trans (hb3.mono HB.out.size))
        have IX3 := hide ((unhide IX).below hb3)
        have IG3 := hide ((unhide IG).below hb3)
        simp only [World.size_alloc] at E3
        clear hb hb3
        have a0 := (unhide A2).cell 0
        have a1 := (unhide A2).cell 1
        have a2 := (unhide A2).cell 2
        simp only [List.getElem?_toArray, List.getElem?_cons_zero, List.getElem?_cons_succ] at a0 a1 a2
        go_wp2_with fail
        refine (keWins_one ⟨tk, tt, ts⟩ _ _ _ _ _ (unhide E1) (unhide E3) (unhide IG3) (unhide IX3)).mono ?_
        rintro e w9 ⟨rfl, hb⟩
        have HB4 := hide (HB3.out.trans (hb.mono HB3.out.size))
        clear hb
        go_wp2_with fail
        go_ret
        exact ⟨rfl, unhide HB4⟩
    | false =>
      rw [hlt] at HLD
      obtain ⟨y, y1, y2, y3, y4, y5, y6, y7, y8⟩ := winTake_took HRO.out ⟨hn1, hn2⟩ hlt
      have hF := HT.out.trans y1
      simp only [Prod.mk.injEq] at hF
      obtain ⟨rfl, rfl⟩ := hF
      simp only at y3 y4 y6 y7 y8
      have HX2 : im = false ∧ top - 8 < n := by
        have := HLD.out
        simp at this
        exact ⟨this.1, this.2⟩
      obtain ⟨rfl, hx2⟩ := HX2
      have Y2 := hide y2
      have Y3 := hide y3
      have Y5 := hide y5
      have Y6 := hide y6
      have Y7 := hide y7
      have Y4 : Hid (decide (n ∈ ts) = true) := decide_eq_true y4
      have hyt := (win_facts y2).2.2.1
      simp only at hyt
      have MT : Hid (tk.size ≤ maxLen) := by rw [y8]; exact M
      clear hlt him HLD y1 y2 y3 y4 y5 y6 y7 y8
      have g0 := (unhide G).cell 0
      have g1 := (unhide G).cell 1
      have g2 := (unhide G).cell 2
      simp only [List.getElem?_toArray, List.getElem?_cons_zero, List.getElem?_cons_succ] at g0 g1 g2
      go_wp2_with fail
      clear g0 g1 g2
      clear c0 c1 c2
      refine (iWinTake_any ⟨tk, tt, ts⟩ _ n _ (unhide IG) MT.out (by simp only; omega)).mono ?_
      rw [Y5.out]
      simp only
      rintro e w8 ⟨kv, rfl, ho, hb⟩
      obtain ⟨ko, kc, rfl⟩ := row_form' ho
      clear ho
      replace IX := hide ((unhide IX).below hb)
      replace A := hide ((unhide A).below hb)
      replace IG := hide ((unhide IG).below hb)
      replace G := hide ((unhide G).below hb)
      replace IH := hide ((unhide IH).below hb)
      replace H := hide ((unhide H).below hb)
      replace HB := hide (HB.out.trans (hb.mono HB.out.size))
      clear hb
      have hb : Below w8.heap.size w8 (w8.alloc (.cells (winC tk tt (.slice ko ts.length kc)) 35)) := (Below.refl _ _).alloc (Nat.le_refl _) _
      replace IX := hide ((unhide IX).below hb)
      replace A := hide ((unhide A).below hb)
      replace IG := hide ((unhide IG).below hb)
      replace G := hide ((unhide G).below hb)
      replace IH := hide ((unhide IH).below hb)
      replace H := hide ((unhide H).below hb)
      replace HB := hide (HB.out.trans (hb.mono HB.out.size))
      clear hb
      have g0 := (unhide G).cell 0
      have g1 := (unhide G).cell 1
      have g2 := (unhide G).cell 2
      simp only [List.getElem?_toArray, List.getElem?_cons_zero, List.getElem?_cons_succ] at g0 g1 g2
      go_wp2_with fail
      clear g0 g1 g2
      generalize w8.alloc (.cells (winC tk tt (.slice ko ts.length kc)) 35) = W8 at *
      refine (iWinOk_any ⟨tk, tt, ts⟩ _ _ (unhide IG) MT.out (by simp only; omega)).mono ?_
      rw [Y2.out]
      rintro e w9 ⟨rfl, hb⟩
      replace IX := hide ((unhide IX).below hb)
      replace A := hide ((unhide A).below hb)
      replace IG := hide ((unhide IG).below hb)
      replace G := hide ((unhide G).below hb)
      replace IH := hide ((unhide IH).below hb)
      replace H := hide ((unhide H).below hb)
      replace HB := hide (HB.out.trans (hb.mono HB.out.size))
      clear hb
      have g0 := (unhide G).cell 0
      have g1 := (unhide G).cell 1
      have g2 := (unhide G).cell 2
      simp only [List.getElem?_toArray, List.getElem?_cons_zero, List.getElem?_cons_succ] at g0 g1 g2
      go_wp2_with fail
      refine (keIn_any _ ts n _ (unhide IG)).mono ?_
      rw [Y4.out]
      rintro e wz ⟨rfl, rfl⟩
      have c0 := (unhide A).cell 0
      have c1 := (unhide A).cell 1
      have c2 := (unhide A).cell 2
      simp only [List.getElem?_toArray, List.getElem?_cons_zero, List.getElem?_cons_succ] at c0 c1 c2
      have hmx : (tt != max top n) = false := by rw [Y3.out]; simp
      have hmx2 : (tt == max top n) = true := by rw [Y3.out]; simp
      have j8 : IntKind.i64.wrap (tt - 8) = tt - 8 := by simp [IntKind.wrap, IntKind.bits, IntKind.signed]; omega
      go_wp2_with fail
      clear c0 c1 c2
      clear g0 g1 g2
      go_loopw [11] (fun i wr => ∃ k : Nat, k ≤ xs.length ∧ i = .int .i64 (k : Int) ∧ Hid (IRow wr (.slice so sn sc) xs) ∧ Hid (Blk wr xb 35 (winC key top (.slice so sn sc))) ∧ Hid (IRow wr (.slice go ts.length gc) ts) ∧ Hid (Blk wr gb 35 (winC tk tt (.slice go ts.length gc))) ∧ Hid (Below w.heap.size w wr)) (fun i _ => xs.length - (intOf i).toNat)
      case atStart => exact ⟨0, by omega, rfl, IX, A, IG, G, HB⟩
      case round =>
        clear IX A IG G HB H IH
        obtain ⟨k, hk, rfl, IX, A, IG, G, HB⟩ := hrel
        generalize wr = w10 at *
        have hsn := HSN.out
        by_cases hlt : k < xs.length
        rotate_left
        · have hlt2 : decide ((k : Int) < (sn : Int)) = false := by simp; omega
          have hlt3 : decide (k < sn) = false := by simp; omega
          have y7 := Y7.out
          have hle : (ts.length : Int) ≤ (sn : Int) + 1 := by omega
          have jl : IntKind.i64.wrap ((sn : Int) + 1) = (sn : Int) + 1 := by simp [IntKind.wrap, IntKind.bits, IntKind.signed]; omega
          have hle2 : decide ((ts.length : Int) ≤ (sn : Int) + 1) = true := by simpa using hle
          clear hsn y7
          have c0 := (unhide A).cell 0
          have c1 := (unhide A).cell 1
          have c2 := (unhide A).cell 2
          simp only [List.getElem?_toArray, List.getElem?_cons_zero, List.getElem?_cons_succ] at c0 c1 c2
          have g0 := (unhide G).cell 0
          have g1 := (unhide G).cell 1
          have g2 := (unhide G).cell 2
          simp only [List.getElem?_toArray, List.getElem?_cons_zero, List.getElem?_cons_succ] at g0 g1 g2
          go_wp2_with fail
          go_ret
          exact ⟨rfl, unhide HB⟩
        have hlt2 : (k : Int) < (sn : Int) := by omega
        have hk0 : (0 : Int) ≤ (k : Int) := by omega
        obtain ⟨ad, e9, ca⟩ := irow_at (unhide IX) (Below.refl w10.heap.size w10) hlt
        subst e9
        have i3 : IntKind.i64.wrap ((k : Int) + 1) = (k : Int) + 1 := by simp [IntKind.wrap, IntKind.bits, IntKind.signed]; omega
        have HMM := hide (Y6.out (xs.getD k 0) (by rw [getD_at hlt]; exact List.getElem_mem _))
        have CA := hide ca
        clear hsn ca
        obtain ⟨z, hz⟩ : ∃ z, xs.getD k 0 = z := ⟨_, rfl⟩
        rw [hz] at HMM CA
        clear hz
        have c0 := (unhide A).cell 0
        have c1 := (unhide A).cell 1
        have c2 := (unhide A).cell 2
        simp only [List.getElem?_toArray, List.getElem?_cons_zero, List.getElem?_cons_succ] at c0 c1 c2
        go_wp2_with fail
        clear c0 c1 c2
        replace IX := hide ((unhide IX).below (Below.refl w10.heap.size w10).drew)
        replace A := hide ((unhide A).below (Below.refl w10.heap.size w10).drew)
        replace IG := hide ((unhide IG).below (Below.refl w10.heap.size w10).drew)
        replace G := hide ((unhide G).below (Below.refl w10.heap.size w10).drew)
        replace HB : Hid (Below w.heap.size w w10.drew) := HB.out.drew
        have CA2 : Hid (w10.drew.cell? (ad.add k) = some (.int .i64 z)) := unhide CA
        have hcl : (ad.add k).block < w10.drew.heap.size := cell_lt CA.out
        have hfin : (!(decide (z ∈ ts) == decide (tt - 8 < z))) = false := by
          by_cases q : z ∈ ts
          · rw [decide_eq_true q, decide_eq_true (HMM.out.1 q)]; rfl
          · rw [decide_eq_false q, decide_eq_false (fun r => q (HMM.out.2 r))]; rfl
        refine wp_region_later (by kernel_rfl) ?_
        refine later_take (i := 0) (d := 127) (v := ?_) (by kernel_rfl) (by kernel_rfl) (by kernel_rfl) (by kernel_rfl) (fun _ _ _ h => h) (fun oi hoi => ?_) ?_
        rotate_left
        · simp at hoi
          subst hoi
          refine ⟨by rfl, fun w' hw' => ?_⟩
          go_simp
          all_goals rfl
        try simp only [Act.put, List.setIfInBounds_toArray, List.set_cons_zero, List.set_cons_succ]
        refine later_take (i := 1) (d := 128) (v := ?_) (by kernel_rfl) (by kernel_rfl) (by kernel_rfl) (by kernel_rfl) (fun _ _ _ h => h) (fun oi hoi => ?_) ?_
        rotate_left
        · simp at hoi
          subst hoi
          refine ⟨by rfl, fun w' hw' => ?_⟩
          have hx := Blk.below (unhide G) hw'
          have x2 := hx.cell 2
          simp only [List.getElem?_toArray, List.getElem?_cons_succ, List.getElem?_cons_zero] at x2
          go_simp
          all_goals rfl
        try simp only [Act.put, List.setIfInBounds_toArray, List.set_cons_zero, List.set_cons_succ]
        refine later_take (i := 2) (d := 129) (v := ?_) (by kernel_rfl) (by kernel_rfl) (by kernel_rfl) (by kernel_rfl) (fun _ _ _ h => h) (fun oi hoi => ?_) ?_
        rotate_left
        · simp at hoi
          subst hoi
          refine ⟨by rfl, fun w' hw' => ?_⟩
          go_simp
          all_goals rfl
        try simp only [Act.put, List.setIfInBounds_toArray, List.set_cons_zero, List.set_cons_succ]
        refine later_take (i := 3) (d := 130) (v := ?_) (by kernel_rfl) (by kernel_rfl) (by kernel_rfl) (by kernel_rfl) (fun _ _ _ h => h) (fun oi hoi => ?_) ?_
        rotate_left
        · simp at hoi
          subst hoi
          refine ⟨by rfl, fun w' hw' => ?_⟩
          have hx := Blk.below (unhide A) hw'
          have x2 := hx.cell 2
          simp only [List.getElem?_toArray, List.getElem?_cons_succ, List.getElem?_cons_zero] at x2
          go_simp
          all_goals rfl
        try simp only [Act.put, List.setIfInBounds_toArray, List.set_cons_zero, List.set_cons_succ]
        refine later_take (i := 4) (d := 131) (v := ?_) (by kernel_rfl) (by kernel_rfl) (by kernel_rfl) (by kernel_rfl) (fun _ _ _ h => h) (fun oi hoi => ?_) ?_
        rotate_left
        · simp at hoi
          subst hoi
          refine ⟨by rfl, fun w' hw' => ?_⟩
          go_simp
          all_goals rfl
        try simp only [Act.put, List.setIfInBounds_toArray, List.set_cons_zero, List.set_cons_succ]
        refine later_take (i := 5) (d := 132) (v := ?_) (by kernel_rfl) (by kernel_rfl) (by kernel_rfl) (by kernel_rfl) (fun _ _ _ h => h) (fun oi hoi => ?_) ?_
        rotate_left
        · simp at hoi
          subst hoi
          refine ⟨by rfl, fun w' hw' => ?_⟩
          go_simp
          all_goals rfl
        try simp only [Act.put, List.setIfInBounds_toArray, List.set_cons_zero, List.set_cons_succ]
        refine later_take (i := 6) (d := 133) (v := ?_) (by kernel_rfl) (by kernel_rfl) (by kernel_rfl) (by kernel_rfl) (fun _ _ _ h => h) (fun oi hoi => ?_) ?_
        rotate_left
        · simp at hoi
          subst hoi
          refine ⟨by rfl, fun w' hw' => ?_⟩
          have xq := (Below.cell (w := w10.drew) hw' (p := ad.add k) hcl).trans CA2.out
          go_simp
          all_goals rfl
        try simp only [Act.put, List.setIfInBounds_toArray, List.set_cons_zero, List.set_cons_succ]
        refine later_take (i := 8) (d := 135) (v := ?_) (by kernel_rfl) (by kernel_rfl) (by kernel_rfl) (by kernel_rfl) (fun _ _ _ h => h) (fun oi hoi => ?_) ?_
        rotate_left
        · simp at hoi
          subst hoi
          refine ⟨by rfl, fun w' hw' => ?_⟩
          go_simp
          all_goals rfl
        try simp only [Act.put, List.setIfInBounds_toArray, List.set_cons_zero, List.set_cons_succ]
        refine later_take (i := 9) (d := 136) (v := ?_) (by kernel_rfl) (by kernel_rfl) (by kernel_rfl) (by kernel_rfl) (fun _ _ _ h => h) (fun oi hoi => ?_) ?_
        rotate_left
        · simp at hoi
          subst hoi
          refine ⟨by rfl, fun w' hw' => ?_⟩
          have hx := Blk.below (unhide A) hw'
          have x2 := hx.cell 2
          simp only [List.getElem?_toArray, List.getElem?_cons_succ, List.getElem?_cons_zero] at x2
          go_simp
          all_goals rfl
        try simp only [Act.put, List.setIfInBounds_toArray, List.set_cons_zero, List.set_cons_succ]
        refine later_take (i := 10) (d := 137) (v := ?_) (by kernel_rfl) (by kernel_rfl) (by kernel_rfl) (by kernel_rfl) (fun _ _ _ h => h) (fun oi hoi => ?_) ?_
        rotate_left
        · simp at hoi
          subst hoi
          refine ⟨by rfl, fun w' hw' => ?_⟩
          go_simp
          all_goals rfl
        try simp only [Act.put, List.setIfInBounds_toArray, List.set_cons_zero, List.set_cons_succ]
        refine later_take (i := 11) (d := 138) (v := ?_) (by kernel_rfl) (by kernel_rfl) (by kernel_rfl) (by kernel_rfl) (fun _ _ _ h => h) (fun oi hoi => ?_) ?_
        rotate_left
        · simp at hoi
          subst hoi
          refine ⟨by rfl, fun w' hw' => ?_⟩
          go_simp
          all_goals rfl
        try simp only [Act.put, List.setIfInBounds_toArray, List.set_cons_zero, List.set_cons_succ]
        refine later_take (i := 12) (d := 139) (v := ?_) (by kernel_rfl) (by kernel_rfl) (by kernel_rfl) (by kernel_rfl) (fun _ _ _ h => h) (fun oi hoi => ?_) ?_
        rotate_left
        · simp at hoi
          subst hoi
          refine ⟨by rfl, fun w' hw' => ?_⟩
          have xq := (Below.cell (w := w10.drew) hw' (p := ad.add k) hcl).trans CA2.out
          go_simp
          all_goals rfl
        try simp only [Act.put, List.setIfInBounds_toArray, List.set_cons_zero, List.set_cons_succ]
        refine later_take (i := 13) (d := 140) (v := ?_) (by kernel_rfl) (by kernel_rfl) (by kernel_rfl) (by kernel_rfl) (fun _ _ _ h => h) (fun oi hoi => ?_) ?_
        rotate_left
        · simp at hoi
          subst hoi
          refine ⟨by rfl, fun w' hw' => ?_⟩
          go_simp
          all_goals rfl
        try simp only [Act.put, List.setIfInBounds_toArray, List.set_cons_zero, List.set_cons_succ]
        refine later_take (i := 14) (d := 141) (v := ?_) (by kernel_rfl) (by kernel_rfl) (by kernel_rfl) (by kernel_rfl) (fun _ _ _ h => h) (fun oi hoi => ?_) ?_
        rotate_left
        · simp at hoi
          subst hoi
          refine ⟨by rfl, fun w' hw' => ?_⟩
          have hx := Blk.below (unhide G) hw'
          have x1 := hx.cell 1
          simp only [List.getElem?_toArray, List.getElem?_cons_succ, List.getElem?_cons_zero] at x1
          go_simp
          all_goals rfl
        try simp only [Act.put, List.setIfInBounds_toArray, List.set_cons_zero, List.set_cons_succ]
        refine later_take (i := 15) (d := 142) (v := ?_) (by kernel_rfl) (by kernel_rfl) (by kernel_rfl) (by kernel_rfl) (fun _ _ _ h => h) (fun oi hoi => ?_) ?_
        rotate_left
        · simp at hoi
          subst hoi
          refine ⟨by rfl, fun w' hw' => ?_⟩
          go_simp
          all_goals rfl
        try simp only [Act.put, List.setIfInBounds_toArray, List.set_cons_zero, List.set_cons_succ]
        refine later_take (i := 16) (d := 143) (v := ?_) (by kernel_rfl) (by kernel_rfl) (by kernel_rfl) (by kernel_rfl) (fun _ _ _ h => h) (fun oi hoi => ?_) ?_
        rotate_left
        · simp at hoi
          subst hoi
          refine ⟨by rfl, fun w' hw' => ?_⟩
          go_simp
          all_goals rfl
        try simp only [Act.put, List.setIfInBounds_toArray, List.set_cons_zero, List.set_cons_succ]
        refine later_one (i := 7) (by kernel_rfl) (fun oi K hoi hK => ?_)
        simp at hoi
        subst hoi
        refine ⟨by rfl, ?_⟩
        go_simp
        refine (keIn_any _ ts z _ (unhide IG)).mono ?_
        rintro e wz ⟨rfl, rfl⟩
        go_simp
        refine hK.out _ _ (Below.refl _ _) ?_
        clear hK
        try simp only [Act.put, List.setIfInBounds_toArray, List.set_cons_zero, List.set_cons_succ]
        refine later_take (i := 17) (d := 144) (v := ?_) (by kernel_rfl) (by kernel_rfl) (by kernel_rfl) (by kernel_rfl) (fun _ _ _ h => h) (fun oi hoi => ?_) ?_
        rotate_left
        · simp at hoi
          subst hoi
          refine ⟨by rfl, fun w' hw' => ?_⟩
          go_simp
          all_goals rfl
        try simp only [Act.put, List.setIfInBounds_toArray, List.set_cons_zero, List.set_cons_succ]
        refine later_done (by kernel_rfl) ?_ _
        go_wp2_with fail
        go_roundw
        case rel => exact ⟨k + 1, by omega, by simp, IX, A, IG, G, HB⟩
        case measure => simp [intOf]; omega
  · simp at hoi
    subst hoi
    refine ⟨by rfl, ?_⟩
    go_simp
    obtain ⟨g3, hg3, e9, hb⟩ := blk_next (unhide A) (winC tk tt (.slice hO ts.length hc))
    have hb2 := hb
    refine hK.out _ _ hb2 ?_
    clear hK hb2
    first | rw [hg3] | rw [show W3.heap.size = g3 from hg3] | (rw [World.size_alloc] at hg3; rw [show W3.heap.size + 1 = g3 from hg3])
    replace IX := hide ((unhide IX).below hb)
    replace A := hide ((unhide A).below hb)
    replace IG := hide ((unhide IG).below hb)
    replace G := hide ((unhide G).below hb)
    replace IH := hide ((unhide IH).below hb)
    replace H := hide ((unhide H).below hb)
    try (replace E1 := hide ((unhide E1).below hb))
    try (replace E3 := hide ((unhide E3).below hb))
    have E3 := hide e9
    replace HB := hide (HB.out.trans (hb.mono HB.out.size))
    clear hb e9 hg3
    try simp only [Act.put, List.setIfInBounds_toArray, List.set_cons_zero, List.set_cons_succ]
    refine later_one (i := 1) (by kernel_rfl) (fun oi K hoi hK => ?_)
    simp at hoi
    subst hoi
    refine ⟨by rfl, ?_⟩
    go_simp
    obtain ⟨g1, hg1, e9, hb⟩ := blk_next (unhide A) (winC tk tt (.slice go ts.length gc))
    have hb2 := hb
    refine hK.out _ _ hb2 ?_
    clear hK hb2
    first | rw [hg1] | rw [show W3.heap.size = g1 from hg1] | (rw [World.size_alloc] at hg1; rw [show W3.heap.size + 1 = g1 from hg1])
    replace IX := hide ((unhide IX).below hb)
    replace A := hide ((unhide A).below hb)
    replace IG := hide ((unhide IG).below hb)
    replace G := hide ((unhide G).below hb)
    replace IH := hide ((unhide IH).below hb)
    replace H := hide ((unhide H).below hb)
    try (replace E1 := hide ((unhide E1).below hb))
    try (replace E3 := hide ((unhide E3).below hb))
    have E1 := hide e9
    replace HB := hide (HB.out.trans (hb.mono HB.out.size))
    clear hb e9 hg1
    try simp only [Act.put, List.setIfInBounds_toArray, List.set_cons_zero, List.set_cons_succ]
    refine later_one (i := 4) (by kernel_rfl) (fun oi K hoi hK => ?_)
    simp at hoi
    subst hoi
    refine ⟨by rfl, ?_⟩
    go_simp
    refine (keWins_one ⟨tk, tt, ts⟩ _ _ _ _ _ (unhide E1) (unhide E3) (unhide IG) (unhide IH)).mono ?_
    rintro e w4 ⟨rfl, hb⟩
    go_simp
    refine hK.out _ _ hb ?_
    clear hK
    replace IX := hide ((unhide IX).below hb)
    replace A := hide ((unhide A).below hb)
    replace IG := hide ((unhide IG).below hb)
    replace G := hide ((unhide G).below hb)
    replace IH := hide ((unhide IH).below hb)
    replace H := hide ((unhide H).below hb)
    replace HB := hide (HB.out.trans (hb.mono HB.out.size))
    clear hb
    clear E1 E3
    try simp only [Act.put, List.setIfInBounds_toArray, List.set_cons_zero, List.set_cons_succ]
    refine later_take (i := 5) (d := 37) (v := ?_) (by kernel_rfl) (by kernel_rfl) (by kernel_rfl) (by kernel_rfl) (fun _ _ _ h => h) (fun oi hoi => ?_) ?_
    rotate_left
    · simp at hoi
      subst hoi
      refine ⟨by rfl, fun w' hw' => ?_⟩
      go_simp
      all_goals rfl
    try simp only [Act.put, List.setIfInBounds_toArray, List.set_cons_zero, List.set_cons_succ]
    refine later_take (i := 6) (d := 38) (v := ?_) (by kernel_rfl) (by kernel_rfl) (by kernel_rfl) (by kernel_rfl) (fun _ _ _ h => h) (fun oi hoi => ?_) ?_
    rotate_left
    · simp at hoi
      subst hoi
      refine ⟨by rfl, fun w' hw' => ?_⟩
      go_simp
      all_goals rfl
    try simp only [Act.put, List.setIfInBounds_toArray, List.set_cons_zero, List.set_cons_succ]
    refine later_take (i := 7) (d := 39) (v := ?_) (by kernel_rfl) (by kernel_rfl) (by kernel_rfl) (by kernel_rfl) (fun _ _ _ h => h) (fun oi hoi => ?_) ?_
    rotate_left
    · simp at hoi
      subst hoi
      refine ⟨by rfl, fun w' hw' => ?_⟩
      go_simp
      all_goals rfl
    try simp only [Act.put, List.setIfInBounds_toArray, List.set_cons_zero, List.set_cons_succ]
    refine later_take (i := 8) (d := 40) (v := ?_) (by kernel_rfl) (by kernel_rfl) (by kernel_rfl) (by kernel_rfl) (fun _ _ _ h => h) (fun oi hoi => ?_) ?_
    rotate_left
    · simp at hoi
      subst hoi
      refine ⟨by rfl, fun w' hw' => ?_⟩
      go_simp
      all_goals rfl
    try simp only [Act.put, List.setIfInBounds_toArray, List.set_cons_zero, List.set_cons_succ]
    refine later_take (i := 9) (d := 41) (v := ?_) (by kernel_rfl) (by kernel_rfl) (by kernel_rfl) (by kernel_rfl) (fun _ _ _ h => h) (fun oi hoi => ?_) ?_
    rotate_left
    · simp at hoi
      subst hoi
      refine ⟨by rfl, fun w' hw' => ?_⟩
      go_simp
      all_goals rfl
    try simp only [Act.put, List.setIfInBounds_toArray, List.set_cons_zero, List.set_cons_succ]
    refine later_take (i := 10) (d := 42) (v := ?_) (by kernel_rfl) (by kernel_rfl) (by kernel_rfl) (by kernel_rfl) (fun _ _ _ h => h) (fun oi hoi => ?_) ?_
    rotate_left
    · simp at hoi
      subst hoi
      refine ⟨by rfl, fun w' hw' => ?_⟩
      go_simp
      all_goals rfl
    try simp only [Act.put, List.setIfInBounds_toArray, List.set_cons_zero, List.set_cons_succ]
    refine later_take (i := 11) (d := 43) (v := ?_) (by kernel_rfl) (by kernel_rfl) (by kernel_rfl) (by kernel_rfl) (fun _ _ _ h => h) (fun oi hoi => ?_) ?_
    rotate_left
    · simp at hoi
      subst hoi
      refine ⟨by rfl, fun w' hw' => ?_⟩
      go_simp
      all_goals rfl
    try simp only [Act.put, List.setIfInBounds_toArray, List.set_cons_zero, List.set_cons_succ]
    refine later_take (i := 12) (d := 44) (v := ?_) (by kernel_rfl) (by kernel_rfl) (by kernel_rfl) (by kernel_rfl) (fun _ _ _ h => h) (fun oi hoi => ?_) ?_
    rotate_left
    · simp at hoi
      subst hoi
      refine ⟨by rfl, fun w' hw' => ?_⟩
      have hx := Blk.below (unhide A) hw'
      have x0 := hx.cell 0
      have x1 := hx.cell 1
      have x2 := hx.cell 2
      simp only [List.getElem?_toArray, List.getElem?_cons_succ, List.getElem?_cons_zero] at x0 x1 x2
      go_simp
      all_goals rfl
    try simp only [Act.put, List.setIfInBounds_toArray, List.set_cons_zero, List.set_cons_succ]
    refine later_take (i := 14) (d := 46) (v := ?_) (by kernel_rfl) (by kernel_rfl) (by kernel_rfl) (by kernel_rfl) (fun _ _ _ h => h) (fun oi hoi => ?_) ?_
    rotate_left
    · simp at hoi
      subst hoi
      refine ⟨by rfl, fun w' hw' => ?_⟩
      have hx := Blk.below (unhide A) hw'
      have x0 := hx.cell 0
      have x1 := hx.cell 1
      have x2 := hx.cell 2
      simp only [List.getElem?_toArray, List.getElem?_cons_succ, List.getElem?_cons_zero] at x0 x1 x2
      go_simp
      all_goals rfl
    try simp only [Act.put, List.setIfInBounds_toArray, List.set_cons_zero, List.set_cons_succ]
    refine later_one (i := 13) (by kernel_rfl) (fun oi K hoi hK => ?_)
    simp at hoi
    subst hoi
    refine ⟨by rfl, ?_⟩
    go_simp
    refine (iWinOk_any ⟨key, top, xs⟩ _ _ (unhide IX) M.out (by simp only; omega)).mono ?_
    rw [HRO.out]
    rintro e w5 ⟨rfl, hb⟩
    go_simp
    refine hK.out _ _ hb ?_
    clear hK
    replace IX := hide ((unhide IX).below hb)
    replace A := hide ((unhide A).below hb)
    replace IG := hide ((unhide IG).below hb)
    replace G := hide ((unhide G).below hb)
    replace IH := hide ((unhide IH).below hb)
    replace H := hide ((unhide H).below hb)
    replace HB := hide (HB.out.trans (hb.mono HB.out.size))
    clear hb
    try simp only [Act.put, List.setIfInBounds_toArray, List.set_cons_zero, List.set_cons_succ]
    refine later_one (i := 15) (by kernel_rfl) (fun oi K hoi hK => ?_)
    simp at hoi
    subst hoi
    refine ⟨by rfl, ?_⟩
    go_simp
    refine (sWinOk_any ⟨key, top, xs⟩ _ _ (unhide IX) M.out (by simp only; omega)).mono ?_
    rw [HRO.out]
    rintro e w6 ⟨rfl, hb⟩
    go_simp
    refine hK.out _ _ hb ?_
    clear hK
    replace IX := hide ((unhide IX).below hb)
    replace A := hide ((unhide A).below hb)
    replace IG := hide ((unhide IG).below hb)
    replace G := hide ((unhide G).below hb)
    replace IH := hide ((unhide IH).below hb)
    replace H := hide ((unhide H).below hb)
    replace HB := hide (HB.out.trans (hb.mono HB.out.size))
    clear hb
    try simp only [Act.put, List.setIfInBounds_toArray, List.set_cons_zero, List.set_cons_succ]
    refine later_take (i := 16) (d := 48) (v := ?_) (by kernel_rfl) (by kernel_rfl) (by kernel_rfl) (by kernel_rfl) (fun _ _ _ h => h) (fun oi hoi => ?_) ?_
    rotate_left
    · simp at hoi
      subst hoi
      refine ⟨by rfl, fun w' hw' => ?_⟩
      go_simp
      all_goals rfl
    try simp only [Act.put, List.setIfInBounds_toArray, List.set_cons_zero, List.set_cons_succ]
    refine later_take (i := 17) (d := 49) (v := ?_) (by kernel_rfl) (by kernel_rfl) (by kernel_rfl) (by kernel_rfl) (fun _ _ _ h => h) (fun oi hoi => ?_) ?_
    rotate_left
    · simp at hoi
      subst hoi
      refine ⟨by rfl, fun w' hw' => ?_⟩
      go_simp
      all_goals rfl
    try simp only [Act.put, List.setIfInBounds_toArray, List.set_cons_zero, List.set_cons_succ]
    refine later_done (by kernel_rfl) ?_ _
    have c0 := (unhide A).cell 0
    have c1 := (unhide A).cell 1
    have c2 := (unhide A).cell 2
    simp only [List.getElem?_toArray, List.getElem?_cons_zero, List.getElem?_cons_succ] at c0 c1 c2
    go_wp2_with fail
    clear c0 c1 c2
    refine (sWinOk_any ⟨key, top, xs⟩ _ _ (unhide IX) M.out (by simp only; omega)).mono ?_
    rw [HRO.out]
    rintro e w7 ⟨rfl, hb⟩
    replace IX := hide ((unhide IX).below hb)
    replace A := hide ((unhide A).below hb)
    replace IG := hide ((unhide IG).below hb)
    replace G := hide ((unhide G).below hb)
    replace IH := hide ((unhide IH).below hb)
    replace H := hide ((unhide H).below hb)
    replace HB := hide (HB.out.trans (hb.mono HB.out.size))
    clear hb
    by_cases hin : ro = true ∧ 1 ≤ n ∧ n ≤ 999
    rotate_left
    · have HF := hide (HT.out.trans (winTake_not (by rw [HRO.out]; exact hin)))
      have hF := HF.out
      simp only [Prod.mk.injEq, Win.none, Win.mk.injEq] at hF
      obtain ⟨⟨rfl, rfl, rfl⟩, rfl⟩ := hF
      have g0 := (unhide G).cell 0
      simp only [List.getElem?_toArray, List.getElem?_cons_zero] at g0
      have hin2 : ro = false ∨ n < 1 ∨ 999 < n := by
        cases ro with
        | false => exact .inl rfl
        | true => exact .inr (by have : ¬ (1 ≤ n ∧ n ≤ 999) := fun q => hin ⟨rfl, q⟩; omega)
      clear hin HF
      rcases hin2 with rfl | hn | hn
      · go_wp2_with fail
        refine (keOk_any _).mono ?_
        rintro e w8 ⟨rfl, hb⟩
        replace HB := hide (HB.out.trans (hb.mono HB.out.size))
        clear hb
        go_wp2_with fail
        go_ret
        exact ⟨rfl, unhide HB⟩
      · cases ro
        all_goals
          go_wp2_with fail
          refine (keOk_any _).mono ?_
          rintro e w8 ⟨rfl, hb⟩
          replace HB := hide (HB.out.trans (hb.mono HB.out.size))
          clear hb
          go_wp2_with fail
          go_ret
          exact ⟨rfl, unhide HB⟩
      · have hn1 : decide (n < 1) = false := by simp; omega
        cases ro
        all_goals
          go_wp2_with fail
          refine (keOk_any _).mono ?_
          rintro e w8 ⟨rfl, hb⟩
          replace HB := hide (HB.out.trans (hb.mono HB.out.size))
          clear hb
          go_wp2_with fail
          go_ret
          exact ⟨rfl, unhide HB⟩
    obtain ⟨rfl, hn1, hn2⟩ := hin
    have hd1 : decide (n < 1) = false := by simp; omega
    have hd2 : decide (999 < n) = false := by simp; omega
    obtain ⟨_, _, f3, f4⟩ := win_facts HRO.out
    simp only at f3 f4
    have i8 : IntKind.i64.wrap (top - 8) = top - 8 := by simp [IntKind.wrap, IntKind.bits, IntKind.signed]; omega
    have c0 := (unhide A).cell 0
    have c1 := (unhide A).cell 1
    have c2 := (unhide A).cell 2
    simp only [List.getElem?_toArray, List.getElem?_cons_zero, List.getElem?_cons_succ] at c0 c1 c2
    go_wp2_with fail
    refine (keIn_any _ xs n _ (unhide IX)).mono ?_
    have HLD : Hid ((!(lateB ⟨key, top, xs⟩ n)) = (!(decide (n ∈ xs)) && decide (top - 8 < n))) := late_dec ⟨key, top, xs⟩ n
    obtain ⟨im, him⟩ : ∃ b, decide (n ∈ xs) = b := ⟨_, rfl⟩
    rw [him] at HLD ⊢
    rintro e wz ⟨rfl, rfl⟩
    cases hlt : lateB ⟨key, top, xs⟩ n with
    | true =>
      rw [hlt] at HLD
      have hF := HT.out.trans (winTake_late HRO.out ⟨hn1, hn2⟩ hlt)
      simp only [Prod.mk.injEq, Win.mk.injEq] at hF
      obtain ⟨⟨rfl, rfl, rfl⟩, rfl⟩ := hF
      have HX2 : im = true ∨ (im = false ∧ decide (tt - 8 < n) = false) := by
        have := HLD.out
        cases im with
        | true => exact .inl rfl
        | false => exact .inr ⟨rfl, by simpa using this.symm⟩
      clear hlt him HLD
      rcases HX2 with rfl | ⟨rfl, hx2⟩
      · skip
        have g0 := (unhide G).cell 0
        have g1 := (unhide G).cell 1
        have g2 := (unhide G).cell 2
        simp only [List.getElem?_toArray, List.getElem?_cons_zero, List.getElem?_cons_succ] at g0 g1 g2
        have E1 := hide (Blk.new wz 35 (winC tk tt (.slice go ts.length gc)))
        have hb : Below wz.heap.size wz (wz.alloc (.cells (winC tk tt (.slice go ts.length gc)) 35)) := (Below.refl _ _).alloc (Nat.le_refl _) _
        have A2 := hide ((unhide A).below hb)
        have hb3 : Below wz.heap.size wz ((wz.alloc (.cells (winC tk tt (.slice go ts.length gc)) 35)).alloc (.cells (winC tk tt (.slice so sn sc)) 35)) := hb.alloc hb.size _
        have E3 := hide (Blk.new (wz.alloc (.cells (winC tk tt (.slice go ts.length gc)) 35)) 35 (winC tk tt (.slice so sn sc)))
        replace E1 := hide ((unhide E1).alloc (.cells (winC tk tt (.slice so sn sc)) 35))
        have HB3 := hide (HB.out.trans (hb3.mono HB.out.size))
        have IX3 := hide ((unhide IX).below hb3)
        have IG3 := hide ((unhide IG).below hb3)
        simp only [World.size_alloc] at E3
        clear hb hb3
        have a0 := (unhide A2).cell 0
        have a1 := (unhide A2).cell 1
        have a2 := (unhide A2).cell 2
        simp only [List.getElem?_toArray, List.getElem?_cons_zero, List.getElem?_cons_succ] at a0 a1 a2
        go_wp2_with fail
        refine (keWins_one ⟨tk, tt, ts⟩ _ _ _ _ _ (unhide E1) (unhide E3) (unhide IG3) (unhide IX3)).mono ?_
        rintro e w9 ⟨rfl, hb⟩
        have HB4 := hide (HB3.out.trans (hb.mono HB3.out.size))
        clear hb
        go_wp2_with fail
        go_ret
        exact ⟨rfl, unhide HB4⟩
      · skip
        have g0 := (unhide G).cell 0
        have g1 := (unhide G).cell 1
        have g2 := (unhide G).cell 2
        simp only [List.getElem?_toArray, List.getElem?_cons_zero, List.getElem?_cons_succ] at g0 g1 g2
        have E1 := hide (Blk.new wz 35 (winC tk tt (.slice go ts.length gc)))
        have hb : Below wz.heap.size wz (wz.alloc (.cells (winC tk tt (.slice go ts.length gc)) 35)) := (Below.refl _ _).alloc (Nat.le_refl _) _
        have A2 := hide ((unhide A).below hb)
        have hb3 : Below wz.heap.size wz ((wz.alloc (.cells (winC tk tt (.slice go ts.length gc)) 35)).alloc (.cells (winC tk tt (.slice so sn sc)) 35)) := hb.alloc hb.size _
        have E3 := hide (Blk.new (wz.alloc (.cells (winC tk tt (.slice go ts.length gc)) 35)) 35 (winC tk tt (.slice so sn sc)))
        replace E1 := hide ((unhide E1).alloc (.cells (winC tk tt (.slice so sn sc)) 35))
        have HB3 := hide (HB.out.trans (hb3.mono HB.out.size))
        have IX3 := hide ((unhide IX).below hb3)
        have IG3 := hide ((unhide IG).below hb3)
        simp only [World.size_alloc] at E3
        clear hb hb3
        have a0 := (unhide A2).cell 0
        have a1 := (unhide A2).cell 1
        have a2 := (unhide A2).cell 2
        simp only [List.getElem?_toArray, List.getElem?_cons_zero, List.getElem?_cons_succ] at a0 a1 a2
        go_wp2_with fail
        refine (keWins_one ⟨tk, tt, ts⟩ _ _ _ _ _ (unhide E1) (unhide E3) (unhide IG3) (unhide IX3)).mono ?_
        rintro e w9 ⟨rfl, hb⟩
        have HB4 := hide (HB3.out.trans (hb.mono HB3.out.size))
        clear hb
        go_wp2_with fail
        go_ret
        exact ⟨rfl, unhide HB4⟩
    | false =>
      rw [hlt] at HLD
      obtain ⟨y, y1, y2, y3, y4, y5, y6, y7, y8⟩ := winTake_took HRO.out ⟨hn1, hn2⟩ hlt
      have hF := HT.out.trans y1
      simp only [Prod.mk.injEq] at hF
      obtain ⟨rfl, rfl⟩ := hF
      simp only at y3 y4 y6 y7 y8
      have HX2 : im = false ∧ top - 8 < n := by
        have := HLD.out
        simp at this
        exact ⟨this.1, this.2⟩
      obtain ⟨rfl, hx2⟩ := HX2
      have Y2 := hide y2
      have Y3 := hide y3
      have Y5 := hide y5
      have Y6 := hide y6
      have Y7 := hide y7
      have Y4 : Hid (decide (n ∈ ts) = true) := decide_eq_true y4
      have hyt := (win_facts y2).2.2.1
      simp only at hyt
      have MT : Hid (tk.size ≤ maxLen) := by rw [y8]; exact M
      clear hlt him HLD y1 y2 y3 y4 y5 y6 y7 y8
      have g0 := (unhide G).cell 0
      have g1 := (unhide G).cell 1
      have g2 := (unhide G).cell 2
      simp only [List.getElem?_toArray, List.getElem?_cons_zero, List.getElem?_cons_succ] at g0 g1 g2
      go_wp2_with fail
      clear g0 g1 g2
      clear c0 c1 c2
      refine (iWinTake_any ⟨tk, tt, ts⟩ _ n _ (unhide IG) MT.out (by simp only; omega)).mono ?_
      rw [Y5.out]
      simp only
      rintro e w8 ⟨kv, rfl, ho, hb⟩
      obtain ⟨ko, kc, rfl⟩ := row_form' ho
      clear ho
      replace IX := hide ((unhide IX).below hb)
      replace A := hide ((unhide A).below hb)
      replace IG := hide ((unhide IG).below hb)
      replace G := hide ((unhide G).below hb)
      replace IH := hide ((unhide IH).below hb)
      replace H := hide ((unhide H).below hb)
      replace HB := hide (HB.out.trans (hb.mono HB.out.size))
      clear hb
      have hb : Below w8.heap.size w8 (w8.alloc (.cells (winC tk tt (.slice ko ts.length kc)) 35)) := (Below.refl _ _).alloc (Nat.le_refl _) _
      replace IX := hide ((unhide IX).below hb)
      replace A := hide ((unhide A).below hb)
      replace IG := hide ((unhide IG).below hb)
      replace G := hide ((unhide G).below hb)
      replace IH := hide ((unhide IH).below hb)
      replace H := hide ((unhide H).below hb)
      replace HB := hide (HB.out.trans (hb.mono HB.out.size))
      clear hb
      have g0 := (unhide G).cell 0
      have g1 := (unhide G).cell 1
      have g2 := (unhide G).cell 2
      simp only [List.getElem?_toArray, List.getElem?_cons_zero, List.getElem?_cons_succ] at g0 g1 g2
      go_wp2_with fail
      clear g0 g1 g2
      generalize w8.alloc (.cells (winC tk tt (.slice ko ts.length kc)) 35) = W8 at *
      refine (iWinOk_any ⟨tk, tt, ts⟩ _ _ (unhide IG) MT.out (by simp only; omega)).mono ?_
      rw [Y2.out]
      rintro e w9 ⟨rfl, hb⟩
      replace IX := hide ((unhide IX).below hb)
      replace A := hide ((unhide A).below hb)
      replace IG := hide ((unhide IG).below hb)
      replace G := hide ((unhide G).below hb)
      replace IH := hide ((unhide IH).below hb)
      replace H := hide ((unhide H).below hb)
      replace HB := hide (HB.out.trans (hb.mono HB.out.size))
      clear hb
      have g0 := (unhide G).cell 0
      have g1 := (unhide G).cell 1
      have g2 := (unhide G).cell 2
      simp only [List.getElem?_toArray, List.getElem?_cons_zero, List.getElem?_cons_succ] at g0 g1 g2
      go_wp2_with fail
      refine (keIn_any _ ts n _ (unhide IG)).mono ?_
      rw [Y4.out]
      rintro e wz ⟨rfl, rfl⟩
      have c0 := (unhide A).cell 0
      have c1 := (unhide A).cell 1
      have c2 := (unhide A).cell 2
      simp only [List.getElem?_toArray, List.getElem?_cons_zero, List.getElem?_cons_succ] at c0 c1 c2
      have hmx : (tt != max top n) = false := by rw [Y3.out]; simp
      have hmx2 : (tt == max top n) = true := by rw [Y3.out]; simp
      have j8 : IntKind.i64.wrap (tt - 8) = tt - 8 := by simp [IntKind.wrap, IntKind.bits, IntKind.signed]; omega
      go_wp2_with fail
      clear c0 c1 c2
      clear g0 g1 g2
      go_loopw [11] (fun i wr => ∃ k : Nat, k ≤ xs.length ∧ i = .int .i64 (k : Int) ∧ Hid (IRow wr (.slice so sn sc) xs) ∧ Hid (Blk wr xb 35 (winC key top (.slice so sn sc))) ∧ Hid (IRow wr (.slice go ts.length gc) ts) ∧ Hid (Blk wr gb 35 (winC tk tt (.slice go ts.length gc))) ∧ Hid (Below w.heap.size w wr)) (fun i _ => xs.length - (intOf i).toNat)
      case atStart => exact ⟨0, by omega, rfl, IX, A, IG, G, HB⟩
      case round =>
        clear IX A IG G HB H IH
        obtain ⟨k, hk, rfl, IX, A, IG, G, HB⟩ := hrel
        generalize wr = w10 at *
        have hsn := HSN.out
        by_cases hlt : k < xs.length
        rotate_left
        · have hlt2 : decide ((k : Int) < (sn : Int)) = false := by simp; omega
          have hlt3 : decide (k < sn) = false := by simp; omega
          have y7 := Y7.out
          have hle : (ts.length : Int) ≤ (sn : Int) + 1 := by omega
          have jl : IntKind.i64.wrap ((sn : Int) + 1) = (sn : Int) + 1 := by simp [IntKind.wrap, IntKind.bits, IntKind.signed]; omega
          have hle2 : decide ((ts.length : Int) ≤ (sn : Int) + 1) = true := by simpa using hle
          clear hsn y7
          have c0 := (unhide A).cell 0
          have c1 := (unhide A).cell 1
          have c2 := (unhide A).cell 2
          simp only [List.getElem?_toArray, List.getElem?_cons_zero, List.getElem?_cons_succ] at c0 c1 c2
          have g0 := (unhide G).cell 0
          have g1 := (unhide G).cell 1
          have g2 := (unhide G).cell 2
          simp only [List.getElem?_toArray, List.getElem?_cons_zero, List.getElem?_cons_succ] at g0 g1 g2
          go_wp2_with fail
          go_ret
          exact ⟨rfl, unhide HB⟩
        have hlt2 : (k : Int) < (sn : Int) := by omega
        have hk0 : (0 : Int) ≤ (k : Int) := by omega
        obtain ⟨ad, e9, ca⟩ := irow_at (unhide IX) (Below.refl w10.heap.size w10) hlt
        subst e9
        have i3 : IntKind.i64.wrap ((k : Int) + 1) = (k : Int) + 1 := by simp [IntKind.wrap, IntKind.bits, IntKind.signed]; omega
        have HMM := hide (Y6.out (xs.getD k 0) (by rw [getD_at hlt]; exact List.getElem_mem _))
        have CA := hide ca
        clear hsn ca
        obtain ⟨z, hz⟩ : ∃ z, xs.getD k 0 = z := ⟨_, rfl⟩
        rw [hz] at HMM CA
        clear hz
        have c0 := (unhide A).cell 0
        have c1 := (unhide A).cell 1
        have c2 := (unhide A).cell 2
        simp only [List.getElem?_toArray, List.getElem?_cons_zero, List.getElem?_cons_succ] at c0 c1 c2
        go_wp2_with fail
        clear c0 c1 c2
        replace IX := hide ((unhide IX).below (Below.refl w10.heap.size w10).drew)
        replace A := hide ((unhide A).below (Below.refl w10.heap.size w10).drew)
        replace IG := hide ((unhide IG).below (Below.refl w10.heap.size w10).drew)
        replace G := hide ((unhide G).below (Below.refl w10.heap.size w10).drew)
        replace HB : Hid (Below w.heap.size w w10.drew) := HB.out.drew
        have CA2 : Hid (w10.drew.cell? (ad.add k) = some (.int .i64 z)) := unhide CA
        have hcl : (ad.add k).block < w10.drew.heap.size := cell_lt CA.out
        have hfin : (!(decide (z ∈ ts) == decide (tt - 8 < z))) = false := by
          by_cases q : z ∈ ts
          · rw [decide_eq_true q, decide_eq_true (HMM.out.1 q)]; rfl
          · rw [decide_eq_false q, decide_eq_false (fun r => q (HMM.out.2 r))]; rfl
        refine wp_region_later (by kernel_rfl) ?_
        refine later_take (i := 0) (d := 127) (v := ?_) (by kernel_rfl) (by kernel_rfl) (by kernel_rfl) (by kernel_rfl) (fun _ _ _ h => h) (fun oi hoi => ?_) ?_
        rotate_left
        · simp at hoi
          subst hoi
          refine ⟨by rfl, fun w' hw' => ?_⟩
          go_simp
          all_goals rfl
        try simp only [Act.put, List.setIfInBounds_toArray, List.set_cons_zero, List.set_cons_succ]
        refine later_take (i := 1) (d := 128) (v := ?_) (by kernel_rfl) (by kernel_rfl) (by kernel_rfl) (by kernel_rfl) (fun _ _ _ h => h) (fun oi hoi => ?_) ?_
        rotate_left
        · simp at hoi
          subst hoi
          refine ⟨by rfl, fun w' hw' => ?_⟩
          have hx := Blk.below (unhide G) hw'
          have x2 := hx.cell 2
          simp only [List.getElem?_toArray, List.getElem?_cons_succ, List.getElem?_cons_zero] at x2
          go_simp
          all_goals rfl
        try simp only [Act.put, List.setIfInBounds_toArray, List.set_cons_zero, List.set_cons_succ]
        refine later_take (i := 2) (d := 129) (v := ?_) (by kernel_rfl) (by kernel_rfl) (by kernel_rfl) (by kernel_rfl) (fun _ _ _ h => h) (fun oi hoi => ?_) ?_
        rotate_left
        · simp at hoi
          subst hoi
          refine ⟨by rfl, fun w' hw' => ?_⟩
          go_simp
          all_goals rfl
        try simp only [Act.put, List.setIfInBounds_toArray, List.set_cons_zero, List.set_cons_succ]
        refine later_take (i := 3) (d := 130) (v := ?_) (by kernel_rfl) (by kernel_rfl) (by kernel_rfl) (by kernel_rfl) (fun _ _ _ h => h) (fun oi hoi => ?_) ?_
        rotate_left
        · simp at hoi
          subst hoi
          refine ⟨by rfl, fun w' hw' => ?_⟩
          have hx := Blk.below (unhide A) hw'
          have x2 := hx.cell 2
          simp only [List.getElem?_toArray, List.getElem?_cons_succ, List.getElem?_cons_zero] at x2
          go_simp
          all_goals rfl
        try simp only [Act.put, List.setIfInBounds_toArray, List.set_cons_zero, List.set_cons_succ]
        refine later_take (i := 4) (d := 131) (v := ?_) (by kernel_rfl) (by kernel_rfl) (by kernel_rfl) (by kernel_rfl) (fun _ _ _ h => h) (fun oi hoi => ?_) ?_
        rotate_left
        · simp at hoi
          subst hoi
          refine ⟨by rfl, fun w' hw' => ?_⟩
          go_simp
          all_goals rfl
        try simp only [Act.put, List.setIfInBounds_toArray, List.set_cons_zero, List.set_cons_succ]
        refine later_take (i := 5) (d := 132) (v := ?_) (by kernel_rfl) (by kernel_rfl) (by kernel_rfl) (by kernel_rfl) (fun _ _ _ h => h) (fun oi hoi => ?_) ?_
        rotate_left
        · simp at hoi
          subst hoi
          refine ⟨by rfl, fun w' hw' => ?_⟩
          go_simp
          all_goals rfl
        try simp only [Act.put, List.setIfInBounds_toArray, List.set_cons_zero, List.set_cons_succ]
        refine later_take (i := 6) (d := 133) (v := ?_) (by kernel_rfl) (by kernel_rfl) (by kernel_rfl) (by kernel_rfl) (fun _ _ _ h => h) (fun oi hoi => ?_) ?_
        rotate_left
        · simp at hoi
          subst hoi
          refine ⟨by rfl, fun w' hw' => ?_⟩
          have xq := (Below.cell (w := w10.drew) hw' (p := ad.add k) hcl).trans CA2.out
          go_simp
          all_goals rfl
        try simp only [Act.put, List.setIfInBounds_toArray, List.set_cons_zero, List.set_cons_succ]
        refine later_take (i := 8) (d := 135) (v := ?_) (by kernel_rfl) (by kernel_rfl) (by kernel_rfl) (by kernel_rfl) (fun _ _ _ h => h) (fun oi hoi => ?_) ?_
        rotate_left
        · simp at hoi
          subst hoi
          refine ⟨by rfl, fun w' hw' => ?_⟩
          go_simp
          all_goals rfl
        try simp only [Act.put, List.setIfInBounds_toArray, List.set_cons_zero, List.set_cons_succ]
        refine later_take (i := 9) (d := 136) (v := ?_) (by kernel_rfl) (by kernel_rfl) (by kernel_rfl) (by kernel_rfl) (fun _ _ _ h => h) (fun oi hoi => ?_) ?_
        rotate_left
        · simp at hoi
          subst hoi
          refine ⟨by rfl, fun w' hw' => ?_⟩
          have hx := Blk.below (unhide A) hw'
          have x2 := hx.cell 2
          simp only [List.getElem?_toArray, List.getElem?_cons_succ, List.getElem?_cons_zero] at x2
          go_simp
          all_goals rfl
        try simp only [Act.put, List.setIfInBounds_toArray, List.set_cons_zero, List.set_cons_succ]
        refine later_take (i := 10) (d := 137) (v := ?_) (by kernel_rfl) (by kernel_rfl) (by kernel_rfl) (by kernel_rfl) (fun _ _ _ h => h) (fun oi hoi => ?_) ?_
        rotate_left
        · simp at hoi
          subst hoi
          refine ⟨by rfl, fun w' hw' => ?_⟩
          go_simp
          all_goals rfl
        try simp only [Act.put, List.setIfInBounds_toArray, List.set_cons_zero, List.set_cons_succ]
        refine later_take (i := 11) (d := 138) (v := ?_) (by kernel_rfl) (by kernel_rfl) (by kernel_rfl) (by kernel_rfl) (fun _ _ _ h => h) (fun oi hoi => ?_) ?_
        rotate_left
        · simp at hoi
          subst hoi
          refine ⟨by rfl, fun w' hw' => ?_⟩
          go_simp
          all_goals rfl
        try simp only [Act.put, List.setIfInBounds_toArray, List.set_cons_zero, List.set_cons_succ]
        refine later_take (i := 12) (d := 139) (v := ?_) (by kernel_rfl) (by kernel_rfl) (by kernel_rfl) (by kernel_rfl) (fun _ _ _ h => h) (fun oi hoi => ?_) ?_
        rotate_left
        · simp at hoi
          subst hoi
          refine ⟨by rfl, fun w' hw' => ?_⟩
          have xq := (Below.cell (w := w10.drew) hw' (p := ad.add k) hcl).trans CA2.out
          go_simp
          all_goals rfl
        try simp only [Act.put, List.setIfInBounds_toArray, List.set_cons_zero, List.set_cons_succ]
        refine later_take (i := 13) (d := 140) (v := ?_) (by kernel_rfl) (by kernel_rfl) (by kernel_rfl) (by kernel_rfl) (fun _ _ _ h => h) (fun oi hoi => ?_) ?_
        rotate_left
        · simp at hoi
          subst hoi
          refine ⟨by rfl, fun w' hw' => ?_⟩
          go_simp
          all_goals rfl
        try simp only [Act.put, List.setIfInBounds_toArray, List.set_cons_zero, List.set_cons_succ]
        refine later_take (i := 14) (d := 141) (v := ?_) (by kernel_rfl) (by kernel_rfl) (by kernel_rfl) (by kernel_rfl) (fun _ _ _ h => h) (fun oi hoi => ?_) ?_
        rotate_left
        · simp at hoi
          subst hoi
          refine ⟨by rfl, fun w' hw' => ?_⟩
          have hx := Blk.below (unhide G) hw'
          have x1 := hx.cell 1
          simp only [List.getElem?_toArray, List.getElem?_cons_succ, List.getElem?_cons_zero] at x1
          go_simp
          all_goals rfl
        try simp only [Act.put, List.setIfInBounds_toArray, List.set_cons_zero, List.set_cons_succ]
        refine later_take (i := 15) (d := 142) (v := ?_) (by kernel_rfl) (by kernel_rfl) (by kernel_rfl) (by kernel_rfl) (fun _ _ _ h => h) (fun oi hoi => ?_) ?_
        rotate_left
        · simp at hoi
          subst hoi
          refine ⟨by rfl, fun w' hw' => ?_⟩
          go_simp
          all_goals rfl
        try simp only [Act.put, List.setIfInBounds_toArray, List.set_cons_zero, List.set_cons_succ]
        refine later_take (i := 16) (d := 143) (v := ?_) (by kernel_rfl) (by kernel_rfl) (by kernel_rfl) (by kernel_rfl) (fun _ _ _ h => h) (fun oi hoi => ?_) ?_
        rotate_left
        · simp at hoi
          subst hoi
          refine ⟨by rfl, fun w' hw' => ?_⟩
          go_simp
          all_goals rfl
        try simp only [Act.put, List.setIfInBounds_toArray, List.set_cons_zero, List.set_cons_succ]
        refine later_one (i := 7) (by kernel_rfl) (fun oi K hoi hK => ?_)
        simp at hoi
        subst hoi
        refine ⟨by rfl, ?_⟩
        go_simp
        refine (keIn_any _ ts z _ (unhide IG)).mono ?_
        rintro e wz ⟨rfl, rfl⟩
        go_simp
        refine hK.out _ _ (Below.refl _ _) ?_
        clear hK
        try simp only [Act.put, List.setIfInBounds_toArray, List.set_cons_zero, List.set_cons_succ]
        refine later_take (i := 17) (d := 144) (v := ?_) (by kernel_rfl) (by kernel_rfl) (by kernel_rfl) (by kernel_rfl) (fun _ _ _ h => h) (fun oi hoi => ?_) ?_
        rotate_left
        · simp at hoi
          subst hoi
          refine ⟨by rfl, fun w' hw' => ?_⟩
          go_simp
          all_goals rfl
        try simp only [Act.put, List.setIfInBounds_toArray, List.set_cons_zero, List.set_cons_succ]
        refine later_done (by kernel_rfl) ?_ _
        go_wp2_with fail
        go_roundw
        case rel => exact ⟨k + 1, by omega, by simp, IX, A, IG, G, HB⟩
        case measure => simp [intOf]; omega

set_option maxRecDepth 100000 in
theorem lifted_FnWinTake (os : Os) (started : os.Started) (H : Type) (enc : TypeId × Value → H) :
    ReturnsInHanded {} Try.checked os 9 .any (Rows.fnWinTakeSpec.pre6 enc Try.prog Try.f9 Rows.fnWinTakeRow.domain false) (Rows.fnWinTakeSpec.post enc Try.prog Try.f9 false true false false) := by
  refine returnsInHanded_of_change (C := Try.checked) own started (by kernel_rfl) Try.func9
    (ChangeSpec.witness6 (enc := enc) (C := Try.checked) false ⟨#[], #[.slice none 0 0], []⟩ 8 (by kernel_rfl) (by kernel_rfl) (by kernel_rfl) (by kernel_rfl)) ?_
  intro W base args ds gs before hval0 hW hcnd _
  have hval : ∀ (j : Nat) t v, Try.f9.params[j]? = some t → args[j]? = some v → Value.okWide Try.prog W .any base t v := hval0
  have hW' := hW
  obtain ⟨p, q, hA0, hV, rfl, hfz, hnd⟩ := hW
  have hA : DataW.TrodAll enc Try.prog W 0 (fun _ => true) true Try.f9.params.toList args.toList ds p := hA0
  rw [Try.params9] at hA hval
  obtain ⟨v0, vs0, d0, ds0, p0, q0, hargs, rfl, rfl, h0, r0⟩ := trodAll_cons hA
  obtain ⟨rfl, rfl, rfl⟩ := trodAll_nil r0
  obtain rfl : args = #[v0] := by cases args; simp_all
  obtain ⟨rfl, rfl⟩ := trodVars_none hV
  obtain ⟨a0, len0, cap0, rfl⟩ := okWide_slice Try.underlying43 (hval 0 43 v0 rfl rfl)
  have k0 := h0
  have lt0 : ∀ x ∈ p0, x.block < W.heap.size := by obtain ⟨m, hm⟩ := k0; exact DataW.trod_lt m _ _ _ hm
  obtain ⟨z0, w0⟩ : ∃ zs, IsRow .u8 W a0 len0 cap0 zs := by
    obtain ⟨fuel, hf⟩ := h0
    rcases open_ints Try.underlying43 Try.underlying5 (by kernel_rfl) hf with ⟨hcs, _⟩ | ⟨x, l, c, zs, hcs, _, hl, hm, hz, _, hcell, hwz⟩
    · simp [Value.cells] at hcs
      obtain ⟨rfl, rfl, rfl⟩ := hcs
      exact ⟨[], .inl ⟨rfl, rfl, rfl, rfl⟩⟩
    · simp [Value.cells] at hcs
      obtain ⟨rfl, rfl, rfl⟩ := hcs
      exact ⟨zs, .inr ⟨_, rfl, hl, hm, by simpa using hz, hcell, hwz⟩⟩
  clear hA0 hval0
  refine (walk_FnWinTake a0 len0 cap0 z0 W w0).mono fun e W' ⟨he, bel⟩ => ?_
  subst he
  exact ⟨_, rfl, _, _, _, [], _, [], hW', trodAll_mk1 (shut_bool Try.underlying4 _), (trodAll_cons_mk (Below.trod laidOut (by kernel_rfl) (of_decide_eq_true (by kernel_rfl)) k0 bel lt0) trodAll_mk0), rfl, bel.frame _, fun h => by cases h⟩

theorem fnWinTake_holds : Rows.FnWinTakeSaid :=
  OpenClaim.holds_of_wide 9 Try.f9 rfl rfl rfl rfl rfl rfl rfl ⟨rfl, rfl, rfl, rfl, rfl⟩ rfl rfl rfl rfl rfl (by kernel_rfl) Try.func9 (by kernel_rfl)
    (of_decide_eq_true (by kernel_rfl)) (by unfold Func.isWrapper; first | (rw [if_pos (by decide +kernel)]; kernel_rfl) | (rw [if_neg (by decide +kernel)]; exact ⟨rfl, rfl⟩))
    (fun os started H enc _ => lifted_FnWinTake os started H enc)

#print axioms fnWinTake_holds
end Go.Proofs.Ytgdhlnfigcaepaa
