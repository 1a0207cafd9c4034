/-
  Proved: at every window and every number the program's WinTake answers as the specification's WinTake; it writes into no argument, its answer owns its memory, behind another call too, and nothing that was there is written. No condition.
-/
import Derived.Test.YtgdhlnfigcaepaaFnExactWinTakeB4
import Derived.Test.YtgdhlnfigcaepaaFnExactWinTakeB7
import Derived.Test.YtgdhlnfigcaepaaFnExactWinTakeB9
namespace Go.Proofs.Ytgdhlnfigcaepaa
open Go.ChangeShapes Go.WideShapes Go.ChangeAt Go.RowKit
open Go.ChangeMaps (open_string shut_string)
set_option linter.unusedVariables false

theorem winTake_len (x : Win) (n : Int) : (winTake x n).1.seen.length ≤ 8 := by
  unfold winTake
  split
  · rename_i h
    have hn : 1 ≤ n ∧ n ≤ 999 := by have := h.2; unfold inB at this; simpa using this
    have := win_facts (take_seen h.1 hn)
    exact falls_len this.2.2.2 this.2.2.1.1
  · simp [Win.none]

set_option maxRecDepth 100000 in
set_option maxHeartbeats 8000000 in
theorem walk_FnExactWinTake (x : Win) (v : Value) (n : Int) (w : World) (w0 : IRow w v x.seen) (w1 : x.key.size ≤ maxLen) (wn : (Lit.int .i64 n).wf = true) :
    Calls Try.prog 6 #[.agg (x.cells v), .int .i64 n] w fun e w' => e = .returned (.bool true) ∧ Below w.heap.size w w' := by
  clear wn
  have HST := hide (fun v => sWinTake_any x v n)
  have HIT := hide (fun v => iWinTake_any x v n)
  have HTO := hide (fun v => toFraWin_any x v)
  have HEQ := hide (fun v => eqFraWin_same x v)
  have hlen := winTake_len x n
  obtain ⟨key, top, xs⟩ := x
  simp only at w0 w1 HST HIT HTO HEQ ⊢
  have M := hide w1
  have HI := hide w0
  obtain ⟨ao, cap, rfl, _, _, _⟩ := w0.form
  clear w0 w1
  have A := hide (Blk.new w 32 (winC key top (.slice ao xs.length cap)))
  have HB : Hid (Below w.heap.size w (w.alloc (.cells (winC key top (.slice ao xs.length cap)) 32))) := (Below.refl _ _).alloc (Nat.le_refl _) _
  have HS := hide (szFraWin_any ⟨key, top, xs⟩ (.slice ao xs.length cap) 1048576 _ ((unhide HI).below HB.out) M.out (by omega) (by omega))
  generalize winTake ⟨key, top, xs⟩ n = T at *
  obtain ⟨⟨tk, tt, ts⟩, tb⟩ := T
  simp only at hlen HST HIT
  go_enter Try.func6, Try.ntmps6
  go_wp2_with fail
  refine (unhide HS).mono ?_
  rintro e w1 ⟨r, rfl, hr, hn, hb⟩
  replace A := hide ((unhide A).below hb)
  replace HB := hide (HB.out.trans (hb.mono HB.out.size))
  have HN := hide hn
  clear hb HS hn
  by_cases hneg : r < 0
  · go_wp2_with fail
    go_ret
    exact ⟨rfl, unhide HB⟩
  have hn2 : decide (r < 0) = false := by simpa using hneg
  have hl : xs.length ≤ 1048576 := HN.out (by omega)
  clear hneg HN
  have c0 := (unhide A).cell 0
  have c1 := (unhide A).cell 1
  have c2 := (unhide A).cell 2
  simp only [List.getElem?_toArray, List.getElem?_cons_zero, List.getElem?_cons_succ] at c0 c1 c2
  go_wp2_with fail
  clear c0 c1 c2
  refine ((unhide HTO) _ _ ((unhide HI).below HB.out) hl).mono ?_
  rintro e w2 ⟨I2v, rfl, ho, hb⟩
  have I2 := hide (IIn.of ho)
  obtain ⟨I2o, I2n, rfl⟩ := row_form' ho
  clear ho
  have hzI2 := hb.size
  replace A := hide ((unhide A).below hb)
  replace HB := hide (HB.out.trans (hb.mono HB.out.size))
  clear hb
  have HW2 := hide HB.out.size
  go_wp2_with fail
  refine ((unhide HST) _ _ (unhide I2).irow M.out (by omega)).mono ?_
  rintro e w3 ⟨IWv, rfl, ho, hb⟩
  have IW := hide (IIn.of ho)
  have hzIW := hb.size
  obtain ⟨IWo, IWn, rfl⟩ := row_form' ho
  clear ho I2
  replace A := hide ((unhide A).below hb)
  replace HB := hide (HB.out.trans (hb.mono HB.out.size))
  clear hb
  skip
  have W6 := hide (Blk.new w3 35 (winC tk tt (.slice IWo ts.length IWn)))
  have hb : Below w3.heap.size w3 (w3.alloc (.cells (winC tk tt (.slice IWo ts.length IWn)) 35)) := (Below.refl _ _).alloc (Nat.le_refl _) _
  have hsW6 : w3.heap.size < (w3.alloc (.cells (winC tk tt (.slice IWo ts.length IWn)) 35)).heap.size := by simp
  replace A := hide ((unhide A).below hb)
  replace IW := hide ((unhide IW).below hb)
  replace HB := hide (HB.out.trans (hb.mono HB.out.size))
  clear hb
  have c0 := (unhide A).cell 0
  have c1 := (unhide A).cell 1
  have c2 := (unhide A).cell 2
  simp only [List.getElem?_toArray, List.getElem?_cons_zero, List.getElem?_cons_succ] at c0 c1 c2
  go_wp2_with fail
  clear c0 c1 c2
  generalize w3.alloc (.cells (winC tk tt (.slice IWo ts.length IWn)) 35) = W3 at *
  skip
  refine ((unhide HTO) _ _ ((unhide HI).below HB.out) hl).mono ?_
  rintro e w4 ⟨IXv, rfl, ho, hb⟩
  have IX := hide (IIn.of ho)
  obtain ⟨IXo, IXn, rfl⟩ := row_form' ho
  clear ho
  have hzIX := hb.size
  replace A := hide ((unhide A).below hb)
  replace IW := hide ((unhide IW).below hb)
  replace W6 := hide ((unhide W6).below hb)
  replace HB := hide (HB.out.trans (hb.mono HB.out.size))
  clear hb
  have X8 := hide (Blk.new w4 35 (winC key top (.slice IXo xs.length IXn)))
  have hb : Below w4.heap.size w4 (w4.alloc (.cells (winC key top (.slice IXo xs.length IXn)) 35)) := (Below.refl _ _).alloc (Nat.le_refl _) _
  have hsX8 : w4.heap.size < (w4.alloc (.cells (winC key top (.slice IXo xs.length IXn)) 35)).heap.size := by simp
  replace A := hide ((unhide A).below hb)
  replace IW := hide ((unhide IW).below hb)
  replace W6 := hide ((unhide W6).below hb)
  replace IX := hide ((unhide IX).below hb)
  replace HB := hide (HB.out.trans (hb.mono HB.out.size))
  clear hb
  have c0 := (unhide X8).cell 0
  have c1 := (unhide X8).cell 1
  have c2 := (unhide X8).cell 2
  simp only [List.getElem?_toArray, List.getElem?_cons_zero, List.getElem?_cons_succ] at c0 c1 c2
  go_wp2_with fail
  clear c0 c1 c2
  generalize w4.alloc (.cells (winC key top (.slice IXo xs.length IXn)) 35) = W4 at *
  refine ((unhide HIT) _ _ (unhide IX).irow M.out (by omega)).mono ?_
  rintro e w5 ⟨IGv, rfl, ho, hb⟩
  have IG := hide (IIn.of ho)
  have hzIG := hb.size
  obtain ⟨IGo, IGn, rfl⟩ := row_form' ho
  clear ho
  replace A := hide ((unhide A).below hb)
  replace IW := hide ((unhide IW).below hb)
  replace W6 := hide ((unhide W6).below hb)
  replace IX := hide ((unhide IX).below hb)
  replace X8 := hide ((unhide X8).below hb)
  replace HB := hide (HB.out.trans (hb.mono HB.out.size))
  clear hb
  have G9 := hide (Blk.new w5 35 (winC tk tt (.slice IGo ts.length IGn)))
  have hb : Below w5.heap.size w5 (w5.alloc (.cells (winC tk tt (.slice IGo ts.length IGn)) 35)) := (Below.refl _ _).alloc (Nat.le_refl _) _
  have hsG9 : w5.heap.size < (w5.alloc (.cells (winC tk tt (.slice IGo ts.length IGn)) 35)).heap.size := by simp
  replace A := hide ((unhide A).below hb)
  replace IW := hide ((unhide IW).below hb)
  replace W6 := hide ((unhide W6).below hb)
  replace IX := hide ((unhide IX).below hb)
  replace X8 := hide ((unhide X8).below hb)
  replace IG := hide ((unhide IG).below hb)
  replace HB := hide (HB.out.trans (hb.mono HB.out.size))
  clear hb
  have g0 := (unhide G9).cell 0
  have g1 := (unhide G9).cell 1
  have g2 := (unhide G9).cell 2
  simp only [List.getElem?_toArray, List.getElem?_cons_zero, List.getElem?_cons_succ] at g0 g1 g2
  have c0 := (unhide W6).cell 0
  have c1 := (unhide W6).cell 1
  have c2 := (unhide W6).cell 2
  simp only [List.getElem?_toArray, List.getElem?_cons_zero, List.getElem?_cons_succ] at c0 c1 c2
  go_wp2_with fail
  clear g0 g1 g2
  clear c0 c1 c2
  generalize w5.alloc (.cells (winC tk tt (.slice IGo ts.length IGn)) 35) = W5 at *
  skip
  refine (eqFraWin_same ⟨tk, tt, ts⟩ _ _ _ (unhide IG).irow (unhide IW).irow).mono ?_
  rintro e w6 ⟨rfl, hb⟩
  replace A := hide ((unhide A).below hb)
  replace IW := hide ((unhide IW).below hb)
  replace W6 := hide ((unhide W6).below hb)
  replace IX := hide ((unhide IX).below hb)
  replace X8 := hide ((unhide X8).below hb)
  replace IG := hide ((unhide IG).below hb)
  replace G9 := hide ((unhide G9).below hb)
  replace HB := hide (HB.out.trans (hb.mono HB.out.size))
  clear hb
  go_wp2_with fail
  replace A := hide ((unhide A).below (Below.refl w6.heap.size w6).drew)
  replace IW := hide ((unhide IW).below (Below.refl w6.heap.size w6).drew)
  replace W6 := hide ((unhide W6).below (Below.refl w6.heap.size w6).drew)
  replace IX := hide ((unhide IX).below (Below.refl w6.heap.size w6).drew)
  replace X8 := hide ((unhide X8).below (Below.refl w6.heap.size w6).drew)
  replace IG := hide ((unhide IG).below (Below.refl w6.heap.size w6).drew)
  replace G9 := hide ((unhide G9).below (Below.refl w6.heap.size w6).drew)
  replace HB : Hid (Below w.heap.size w w6.drew) := HB.out.drew
  refine wp_region_later (by kernel_rfl) ?_
  refine later_take (i := 0) (d := 45) (v := ?_) (by kernel_rfl) (by kernel_rfl) (by kernel_rfl) (by kernel_rfl) (fun _ _ _ h => h) (fun oi hoi => ?_) ?_
  rotate_left
  · simp at hoi
    subst hoi
    refine ⟨by rfl, fun w' hw' => ?_⟩
    have hx := Blk.below (unhide X8) hw'
    have x0 := hx.cell 0
    have x1 := hx.cell 1
    have x2 := hx.cell 2
    simp only [List.getElem?_toArray, List.getElem?_cons_succ, List.getElem?_cons_zero] at x0 x1 x2
    go_simp
    all_goals rfl
  try simp only [Act.put, List.setIfInBounds_toArray, List.set_cons_zero, List.set_cons_succ]
  refine later_take (i := 1) (d := 46) (v := ?_) (by kernel_rfl) (by kernel_rfl) (by kernel_rfl) (by kernel_rfl) (fun _ _ _ h => h) (fun oi hoi => ?_) ?_
  rotate_left
  · simp at hoi
    subst hoi
    refine ⟨by rfl, fun w' hw' => ?_⟩
    have hx := Blk.below (unhide A) hw'
    have x0 := hx.cell 0
    have x1 := hx.cell 1
    have x2 := hx.cell 2
    simp only [List.getElem?_toArray, List.getElem?_cons_succ, List.getElem?_cons_zero] at x0 x1 x2
    go_simp
    all_goals rfl
  try simp only [Act.put, List.setIfInBounds_toArray, List.set_cons_zero, List.set_cons_succ]
  refine later_one (i := 2) (by kernel_rfl) (fun oi K hoi hK => ?_)
  simp at hoi
  subst hoi
  refine ⟨by rfl, ?_⟩
  go_simp
  refine ((unhide HTO) _ _ ((unhide HI).below HB.out) hl).mono ?_
  rintro e w7 ⟨v7, rfl, ho, hb⟩
  have I7 := hide ho.irow
  clear ho
  go_simp
  refine hK.out _ _ hb ?_
  clear hK
  replace A := hide ((unhide A).below hb)
  replace IW := hide ((unhide IW).below hb)
  replace W6 := hide ((unhide W6).below hb)
  replace IX := hide ((unhide IX).below hb)
  replace X8 := hide ((unhide X8).below hb)
  replace IG := hide ((unhide IG).below hb)
  replace G9 := hide ((unhide G9).below hb)
  replace HB := hide (HB.out.trans (hb.mono HB.out.size))
  clear hb
  try simp only [Act.put, List.setIfInBounds_toArray, List.set_cons_zero, List.set_cons_succ]
  refine later_one (i := 3) (by kernel_rfl) (fun oi K hoi hK => ?_)
  simp at hoi
  subst hoi
  refine ⟨by rfl, ?_⟩
  go_simp
  refine ((unhide HEQ) _ _ _ (unhide IX).irow (unhide I7)).mono ?_
  rintro e w8 ⟨rfl, hb⟩
  go_simp
  refine hK.out _ _ hb ?_
  clear hK
  replace A := hide ((unhide A).below hb)
  replace IW := hide ((unhide IW).below hb)
  replace W6 := hide ((unhide W6).below hb)
  replace IX := hide ((unhide IX).below hb)
  replace X8 := hide ((unhide X8).below hb)
  replace IG := hide ((unhide IG).below hb)
  replace G9 := hide ((unhide G9).below hb)
  replace HB := hide (HB.out.trans (hb.mono HB.out.size))
  clear hb
  try simp only [Act.put, List.setIfInBounds_toArray, List.set_cons_zero, List.set_cons_succ]
  refine later_take (i := 4) (d := 49) (v := ?_) (by kernel_rfl) (by kernel_rfl) (by kernel_rfl) (by kernel_rfl) (fun _ _ _ h => h) (fun oi hoi => ?_) ?_
  rotate_left
  · simp at hoi
    subst hoi
    refine ⟨by rfl, fun w' hw' => ?_⟩
    go_simp
    all_goals rfl
  try simp only [Act.put, List.setIfInBounds_toArray, List.set_cons_zero, List.set_cons_succ]
  refine later_done (by kernel_rfl) ?_ _
  have hw8 : w.heap.size ≤ w2.heap.size := HW2.out
  have c0 := (unhide X8).cell 0
  have c1 := (unhide X8).cell 1
  have c2 := (unhide X8).cell 2
  simp only [List.getElem?_toArray, List.getElem?_cons_zero, List.getElem?_cons_succ] at c0 c1 c2
  go_wp2_with fail
  clear c0 c1 c2
  refine (markFraWin_any W3.heap.size ⟨key, top, xs⟩ _ 1 _ (unhide IX).1 (by omega) (by omega) (by simp only; omega)).mono ?_
  rintro e w9 ⟨rfl, ho, hg⟩
  have hout := (unhide IX).out
  have hle := HB.out.size
  replace A := hide ((unhide A).kept hg ((unhide A).not_row (by decide) (unhide IX).1))
  replace W6 := hide ((unhide W6).kept hg ((unhide W6).not_row (by decide) (unhide IX).1))
  replace X8 := hide ((unhide X8).kept hg ((unhide X8).not_row (by decide) (unhide IX).1))
  replace G9 := hide ((unhide G9).kept hg ((unhide G9).not_row (by decide) (unhide IX).1))
  replace IW := hide ((unhide IW).grown hg (fun k hk => by have := hout k hk; omega))
  replace IG := hide ((unhide IG).grown hg (fun k hk => by have := hout k hk; omega))
  replace HB := hide (HB.out.grown hg hle (fun k hk => by have := hout k hk; omega))
  simp only at ho ⊢
  have IXR := hide ho.irow
  clear ho hg hout hle
  obtain ⟨z, hz⟩ : ∃ z : Int, ((1 + xs.length : Nat) : Int) = z := ⟨_, rfl⟩
  rw [hz]
  have Hz := hide hz
  have hz0 : decide (z < 0) = false := by simp; omega
  clear hz
  clear IXR X8
  have g0 := (unhide G9).cell 0
  have g1 := (unhide G9).cell 1
  have g2 := (unhide G9).cell 2
  simp only [List.getElem?_toArray, List.getElem?_cons_zero, List.getElem?_cons_succ] at g0 g1 g2
  have c0 := (unhide W6).cell 0
  have c1 := (unhide W6).cell 1
  have c2 := (unhide W6).cell 2
  simp only [List.getElem?_toArray, List.getElem?_cons_zero, List.getElem?_cons_succ] at c0 c1 c2
  go_wp2_with fail
  clear g0 g1 g2
  clear c0 c1 c2
  refine (eqFraWin_same ⟨tk, tt, ts⟩ _ _ _ (unhide IG).irow (unhide IW).irow).mono ?_
  rintro e w10 ⟨rfl, hb⟩
  replace A := hide ((unhide A).below hb)
  replace IW := hide ((unhide IW).below hb)
  replace W6 := hide ((unhide W6).below hb)
  replace IG := hide ((unhide IG).below hb)
  replace G9 := hide ((unhide G9).below hb)
  replace HB := hide (HB.out.trans (hb.mono HB.out.size))
  clear hb
  have c0 := (unhide G9).cell 0
  have c1 := (unhide G9).cell 1
  have c2 := (unhide G9).cell 2
  simp only [List.getElem?_toArray, List.getElem?_cons_zero, List.getElem?_cons_succ] at c0 c1 c2
  go_wp2_with fail
  clear c0 c1 c2
  refine (markFraWin_any W4.heap.size ⟨tk, tt, ts⟩ _ 1 _ (unhide IG).1 (by omega) (by omega) (by simp only; omega)).mono ?_
  rintro e w11 ⟨rfl, ho, hg⟩
  have hout := (unhide IG).out
  have hle := HB.out.size
  replace A := hide ((unhide A).kept hg ((unhide A).not_row (by decide) (unhide IG).1))
  replace W6 := hide ((unhide W6).kept hg ((unhide W6).not_row (by decide) (unhide IG).1))
  replace G9 := hide ((unhide G9).kept hg ((unhide G9).not_row (by decide) (unhide IG).1))
  replace IW := hide ((unhide IW).grown hg (fun k hk => by have := hout k hk; omega))
  replace HB := hide (HB.out.grown hg hle (fun k hk => by have := hout k hk; omega))
  simp only at ho ⊢
  have IGR := hide ho.irow
  clear ho hg hout hle
  obtain ⟨y, hy⟩ : ∃ z : Int, ((1 + ts.length : Nat) : Int) = z := ⟨_, rfl⟩
  rw [hy]
  have Hy := hide hy
  have hy0 : decide (y < 0) = false := by simp; omega
  clear hy
  have c0 := (unhide G9).cell 0
  have c1 := (unhide G9).cell 1
  have c2 := (unhide G9).cell 2
  simp only [List.getElem?_toArray, List.getElem?_cons_zero, List.getElem?_cons_succ] at c0 c1 c2
  go_wp2_with fail
  clear c0 c1 c2
  refine (heldFraWin_any tk tt _ 1 ts.length _ (unhide IGR) (by omega) (by omega) (by omega)).mono ?_
  rw [Hy.out]
  rintro e w12 ⟨rfl, hb⟩
  replace A := hide ((unhide A).below hb)
  replace IW := hide ((unhide IW).below hb)
  replace W6 := hide ((unhide W6).below hb)
  replace G9 := hide ((unhide G9).below hb)
  replace IGR := hide ((unhide IGR).below hb)
  replace HB := hide (HB.out.trans (hb.mono HB.out.size))
  clear hb
  have c0 := (unhide A).cell 0
  have c1 := (unhide A).cell 1
  have c2 := (unhide A).cell 2
  simp only [List.getElem?_toArray, List.getElem?_cons_zero, List.getElem?_cons_succ] at c0 c1 c2
  go_wp2_with fail
  clear c0 c1 c2
  refine ((unhide HTO) _ _ ((unhide HI).below HB.out) hl).mono ?_
  rintro e w13 ⟨I13v, rfl, ho, hb⟩
  have I13 := hide (IIn.of ho)
  obtain ⟨I13o, I13n, rfl⟩ := row_form' ho
  clear ho
  have hzI13 := hb.size
  replace A := hide ((unhide A).below hb)
  replace IW := hide ((unhide IW).below hb)
  replace W6 := hide ((unhide W6).below hb)
  replace G9 := hide ((unhide G9).below hb)
  replace IGR := hide ((unhide IGR).below hb)
  replace HB := hide (HB.out.trans (hb.mono HB.out.size))
  clear hb
  go_wp2_with fail
  refine ((unhide HIT) _ _ (unhide I13).irow M.out (by omega)).mono ?_
  rintro e w14 ⟨IHv, rfl, ho, hb⟩
  have IH := hide (IIn.of ho)
  obtain ⟨IHo, IHn, rfl⟩ := row_form' ho
  clear ho I13
  replace A := hide ((unhide A).below hb)
  replace IW := hide ((unhide IW).below hb)
  replace W6 := hide ((unhide W6).below hb)
  replace G9 := hide ((unhide G9).below hb)
  replace IGR := hide ((unhide IGR).below hb)
  replace HB := hide (HB.out.trans (hb.mono HB.out.size))
  clear hb
  have H14 := hide (Blk.new w14 35 (winC tk tt (.slice IHo ts.length IHn)))
  have hb : Below w14.heap.size w14 (w14.alloc (.cells (winC tk tt (.slice IHo ts.length IHn)) 35)) := (Below.refl _ _).alloc (Nat.le_refl _) _
  have hsH14 : w14.heap.size < (w14.alloc (.cells (winC tk tt (.slice IHo ts.length IHn)) 35)).heap.size := by simp
  replace A := hide ((unhide A).below hb)
  replace IW := hide ((unhide IW).below hb)
  replace W6 := hide ((unhide W6).below hb)
  replace G9 := hide ((unhide G9).below hb)
  replace IGR := hide ((unhide IGR).below hb)
  replace IH := hide ((unhide IH).below hb)
  replace HB := hide (HB.out.trans (hb.mono HB.out.size))
  clear hb
  have g0 := (unhide H14).cell 0
  have g1 := (unhide H14).cell 1
  have g2 := (unhide H14).cell 2
  simp only [List.getElem?_toArray, List.getElem?_cons_zero, List.getElem?_cons_succ] at g0 g1 g2
  have c0 := (unhide W6).cell 0
  have c1 := (unhide W6).cell 1
  have c2 := (unhide W6).cell 2
  simp only [List.getElem?_toArray, List.getElem?_cons_zero, List.getElem?_cons_succ] at c0 c1 c2
  go_wp2_with fail
  clear g0 g1 g2
  clear c0 c1 c2
  generalize w14.alloc (.cells (winC tk tt (.slice IHo ts.length IHn)) 35) = W14 at *
  refine (eqFraWin_same ⟨tk, tt, ts⟩ _ _ _ (unhide IH).irow (unhide IW).irow).mono ?_
  rintro e w15 ⟨rfl, hb⟩
  replace A := hide ((unhide A).below hb)
  replace IW := hide ((unhide IW).below hb)
  replace W6 := hide ((unhide W6).below hb)
  replace G9 := hide ((unhide G9).below hb)
  replace IGR := hide ((unhide IGR).below hb)
  replace IH := hide ((unhide IH).below hb)
  replace H14 := hide ((unhide H14).below hb)
  replace HB := hide (HB.out.trans (hb.mono HB.out.size))
  clear hb
  have c0 := (unhide G9).cell 0
  have c1 := (unhide G9).cell 1
  have c2 := (unhide G9).cell 2
  simp only [List.getElem?_toArray, List.getElem?_cons_zero, List.getElem?_cons_succ] at c0 c1 c2
  go_wp2_with fail
  clear c0 c1 c2
  refine (heldFraWin_any tk tt _ 1 ts.length _ (unhide IGR) (by omega) (by omega) (by omega)).mono ?_
  rw [Hy.out]
  rintro e w16 ⟨rfl, hb⟩
  replace A := hide ((unhide A).below hb)
  replace IW := hide ((unhide IW).below hb)
  replace W6 := hide ((unhide W6).below hb)
  replace G9 := hide ((unhide G9).below hb)
  replace IGR := hide ((unhide IGR).below hb)
  replace IH := hide ((unhide IH).below hb)
  replace H14 := hide ((unhide H14).below hb)
  replace HB := hide (HB.out.trans (hb.mono HB.out.size))
  clear hb
  go_wp2_with fail
  go_ret
  exact ⟨rfl, unhide HB⟩

set_option maxRecDepth 100000 in
theorem lifted_FnExactWinTake (os : Os) (started : os.Started) (H : Type) (enc : TypeId × Value → H) :
    ReturnsInHanded {} Try.checked os 6 .any (Rows.fnExactWinTakeSpec.pre6 enc Try.prog Try.f6 Rows.fnExactWinTakeRow.domain false) (Rows.fnExactWinTakeSpec.post enc Try.prog Try.f6 false true false false) := by
  refine returnsInHanded_of_change (C := Try.checked) own started (by kernel_rfl) Try.func6
    (ChangeSpec.witness6 (enc := enc) (C := Try.checked) false ⟨#[], #[.agg #[.string ByteArray.empty, .int .i64 0, .slice none 0 0], .int .i64 0], []⟩ 8 (by kernel_rfl) (by kernel_rfl) (by kernel_rfl) (by kernel_rfl)) ?_
  intro W base args ds gs before hval0 hW hcnd _
  have hval : ∀ (j : Nat) t v, Try.f6.params[j]? = some t → args[j]? = some v → Value.okWide Try.prog W .any base t v := hval0
  have hW' := hW
  obtain ⟨p, q, hA0, hV, rfl, hfz, hnd⟩ := hW
  have hA : DataW.TrodAll enc Try.prog W 0 (fun _ => true) true Try.f6.params.toList args.toList ds p := hA0
  rw [Try.params6] at hA hval
  obtain ⟨v0, vs0, d0, ds0, p0, q0, hargs, rfl, rfl, h0, r0⟩ := trodAll_cons hA
  obtain ⟨v1, vs1, d1, ds1, p1, q1, rfl, rfl, rfl, h1, r1⟩ := trodAll_cons r0
  obtain ⟨rfl, rfl, rfl⟩ := trodAll_nil r1
  obtain rfl : args = #[v0, v1] := by cases args; simp_all
  obtain ⟨rfl, rfl⟩ := trodVars_none hV
  obtain ⟨c0, rfl, hc0⟩ := okWide_struct Try.underlying32 (hval 0 32 v0 rfl rfl)
  have k0 := h0
  have lt0 : ∀ x ∈ p0, x.block < W.heap.size := by obtain ⟨m, hm⟩ := k0; exact DataW.trod_lt m _ _ _ hm
  obtain ⟨m0, u0, rfl, w0, x0⟩ : ∃ (f : Win) (s : Value), c0 = f.cells s ∧ IRow W s f.seen ∧ f.key.size ≤ maxLen := by
    obtain ⟨fuel, hf⟩ := h0
    exact open_win hc0 hf
  obtain ⟨a1, rfl, rfl, rfl, w1⟩ := open_int Try.underlying3 (hval 1 3 v1 rfl rfl) h1
  clear hA0 hval0
  refine (walk_FnExactWinTake m0 u0 a1 W w0 x0 w1).mono fun e W' ⟨he, bel⟩ => ?_
  subst he
  exact ⟨_, rfl, _, _, _, [], _, [], hW', trodAll_mk1 (shut_bool Try.underlying4 _), (trodAll_cons_mk (Below.trod laidOut (by kernel_rfl) (of_decide_eq_true (by kernel_rfl)) k0 bel lt0) (trodAll_cons_mk (shut_int Try.underlying3 w1) trodAll_mk0)), rfl, bel.frame _, fun h => by cases h⟩

theorem fnExactWinTake_holds : Rows.FnExactWinTakeSaid :=
  OpenClaim.holds_of_wide 6 Try.f6 rfl rfl rfl rfl rfl rfl rfl ⟨rfl, rfl, rfl, rfl, rfl⟩ rfl rfl rfl rfl rfl (by kernel_rfl) Try.func6 (by kernel_rfl)
    (of_decide_eq_true (by kernel_rfl)) (by unfold Func.isWrapper; first | (rw [if_pos (by decide +kernel)]; kernel_rfl) | (rw [if_neg (by decide +kernel)]; exact ⟨rfl, rfl⟩))
    (fun os started H enc _ => lifted_FnExactWinTake os started H enc)

#print axioms fnExactWinTake_holds
end Go.Proofs.Ytgdhlnfigcaepaa
