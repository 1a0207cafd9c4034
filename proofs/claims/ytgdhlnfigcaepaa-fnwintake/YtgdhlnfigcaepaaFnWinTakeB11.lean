/-
  The laws' own look whether two lists of windows are the same: of one window each.
-/
import Derived.Test.YtgdhlnfigcaepaaFnWinTakeB5
import Derived.Test.YtgdhlnfigcaepaaFnWinTakeB10
import Derived.Test.YtgdhlnfigcaepaaFnWinTakeB6
import Derived.Test.YtgdhlnfigcaepaaFnWinTakeB1
import Derived.Test.YtgdhlnfigcaepaaFnWinTakeB4
namespace Go.Proofs.Ytgdhlnfigcaepaa
open Go.RowKit

set_option maxRecDepth 100000 in
set_option maxHeartbeats 2000000 in
theorem keWins_one (x : Win) (g h : Nat) (s u : Value) (w : World) (hg : Blk w g 35 (x.cells s)) (hh : Blk w h 35 (x.cells u)) (hs : IRow w s x.seen) (hu : IRow w u x.seen) :
    Calls Try.prog 32 #[.slice (some ⟨g, 0, none⟩) 1 1, .slice (some ⟨h, 0, none⟩) 1 1] w fun e w' => e = .returned (.bool true) ∧ Below w.heap.size w w' := by
  obtain ⟨key, top, xs⟩ := x
  simp only at hg hh hs hu
  have IS := hide hs
  have IU := hide hu
  obtain ⟨ao, cap, rfl, _, _, _⟩ := hs.form
  obtain ⟨bo, cap', rfl, _, _, _⟩ := hu.form
  have A := hide hg
  have X := hide hh
  have HB : Hid (Below w.heap.size w w) := Below.refl _ _
  clear hg hh hs hu
  go_enter Try.func32, Try.ntmps32
  go_wp2_with fail
  go_loopw [5] (fun i wr => ∃ k : Nat, k ≤ 1 ∧ i = .int .i64 (k : Int) ∧ Hid (Blk wr g 35 (winC key top (.slice ao xs.length cap))) ∧ Hid (Blk wr h 35 (winC key top (.slice bo xs.length cap'))) ∧ Hid (IRow wr (.slice ao xs.length cap) xs) ∧ Hid (IRow wr (.slice bo xs.length cap') xs) ∧ Hid (Below w.heap.size w wr)) (fun i _ => 1 - (intOf i).toNat)
  case atStart => exact ⟨0, by omega, rfl, A, X, IS, IU, HB⟩
  case round =>
    clear A X IS IU HB
    obtain ⟨k, hk, rfl, A, X, IS, IU, HB⟩ := hrel
    generalize wr = w1 at *
    rcases (by omega : k = 0 ∨ k = 1) with rfl | rfl
    · rw [show ((0 : Nat) : Int) = 0 from rfl]
      have hst : (key.toList != key.toList) = false := by simp
      go_wp2_with fail
      replace A := hide ((unhide A).drew)
      replace X := hide ((unhide X).drew)
      replace IS := hide (IRow.drew (unhide IS))
      replace IU := hide (IRow.drew (unhide IU))
      replace HB : Hid (Below w.heap.size w w1.drew) := HB.out.drew
      refine wp_region_later (by kernel_rfl) ?_
      refine later_take (i := 0) (d := 17) (v := ?_) (by kernel_rfl) (by kernel_rfl) (by kernel_rfl) (by kernel_rfl) (fun _ _ _ h => h) (fun oi hoi => ?_) ?_
      rotate_left
      · simp at hoi
        subst hoi
        refine ⟨by rfl, fun w' hw' => ?_⟩
        go_simp
        all_goals rfl
      try simp only [Act.put, List.setIfInBounds_toArray, List.set_cons_zero, List.set_cons_succ]
      refine later_take (i := 1) (d := 18) (v := ?_) (by kernel_rfl) (by kernel_rfl) (by kernel_rfl) (by kernel_rfl) (fun _ _ _ h => h) (fun oi hoi => ?_) ?_
      rotate_left
      · simp at hoi
        subst hoi
        refine ⟨by rfl, fun w' hw' => ?_⟩
        go_simp
        all_goals rfl
      try simp only [Act.put, List.setIfInBounds_toArray, List.set_cons_zero, List.set_cons_succ]
      refine later_take (i := 2) (d := 19) (v := ?_) (by kernel_rfl) (by kernel_rfl) (by kernel_rfl) (by kernel_rfl) (fun _ _ _ h => h) (fun oi hoi => ?_) ?_
      rotate_left
      · simp at hoi
        subst hoi
        refine ⟨by rfl, fun w' hw' => ?_⟩
        go_simp
        all_goals rfl
      try simp only [Act.put, List.setIfInBounds_toArray, List.set_cons_zero, List.set_cons_succ]
      refine later_take (i := 3) (d := 20) (v := ?_) (by kernel_rfl) (by kernel_rfl) (by kernel_rfl) (by kernel_rfl) (fun _ _ _ h => h) (fun oi hoi => ?_) ?_
      rotate_left
      · simp at hoi
        subst hoi
        refine ⟨by rfl, fun w' hw' => ?_⟩
        go_simp
        all_goals rfl
      try simp only [Act.put, List.setIfInBounds_toArray, List.set_cons_zero, List.set_cons_succ]
      refine later_take (i := 4) (d := 21) (v := ?_) (by kernel_rfl) (by kernel_rfl) (by kernel_rfl) (by kernel_rfl) (fun _ _ _ h => h) (fun oi hoi => ?_) ?_
      rotate_left
      · simp at hoi
        subst hoi
        refine ⟨by rfl, fun w' hw' => ?_⟩
        have hx := Blk.below (unhide A) hw'
        have x0 := hx.cell 0
        simp only [List.getElem?_toArray, List.getElem?_cons_zero] at x0
        go_simp
        all_goals rfl
      try simp only [Act.put, List.setIfInBounds_toArray, List.set_cons_zero, List.set_cons_succ]
      refine later_take (i := 5) (d := 22) (v := ?_) (by kernel_rfl) (by kernel_rfl) (by kernel_rfl) (by kernel_rfl) (fun _ _ _ h => h) (fun oi hoi => ?_) ?_
      rotate_left
      · simp at hoi
        subst hoi
        refine ⟨by rfl, fun w' hw' => ?_⟩
        go_simp
        all_goals rfl
      try simp only [Act.put, List.setIfInBounds_toArray, List.set_cons_zero, List.set_cons_succ]
      refine later_take (i := 6) (d := 23) (v := ?_) (by kernel_rfl) (by kernel_rfl) (by kernel_rfl) (by kernel_rfl) (fun _ _ _ h => h) (fun oi hoi => ?_) ?_
      rotate_left
      · simp at hoi
        subst hoi
        refine ⟨by rfl, fun w' hw' => ?_⟩
        go_simp
        all_goals rfl
      try simp only [Act.put, List.setIfInBounds_toArray, List.set_cons_zero, List.set_cons_succ]
      refine later_take (i := 7) (d := 24) (v := ?_) (by kernel_rfl) (by kernel_rfl) (by kernel_rfl) (by kernel_rfl) (fun _ _ _ h => h) (fun oi hoi => ?_) ?_
      rotate_left
      · simp at hoi
        subst hoi
        refine ⟨by rfl, fun w' hw' => ?_⟩
        go_simp
        all_goals rfl
      try simp only [Act.put, List.setIfInBounds_toArray, List.set_cons_zero, List.set_cons_succ]
      refine later_take (i := 8) (d := 25) (v := ?_) (by kernel_rfl) (by kernel_rfl) (by kernel_rfl) (by kernel_rfl) (fun _ _ _ h => h) (fun oi hoi => ?_) ?_
      rotate_left
      · simp at hoi
        subst hoi
        refine ⟨by rfl, fun w' hw' => ?_⟩
        go_simp
        all_goals rfl
      try simp only [Act.put, List.setIfInBounds_toArray, List.set_cons_zero, List.set_cons_succ]
      refine later_take (i := 9) (d := 26) (v := ?_) (by kernel_rfl) (by kernel_rfl) (by kernel_rfl) (by kernel_rfl) (fun _ _ _ h => h) (fun oi hoi => ?_) ?_
      rotate_left
      · simp at hoi
        subst hoi
        refine ⟨by rfl, fun w' hw' => ?_⟩
        have hx := Blk.below (unhide X) hw'
        have x0 := hx.cell 0
        simp only [List.getElem?_toArray, List.getElem?_cons_zero] at x0
        go_simp
        all_goals rfl
      try simp only [Act.put, List.setIfInBounds_toArray, List.set_cons_zero, List.set_cons_succ]
      refine later_take (i := 10) (d := 27) (v := ?_) (by kernel_rfl) (by kernel_rfl) (by kernel_rfl) (by kernel_rfl) (fun _ _ _ h => h) (fun oi hoi => ?_) ?_
      rotate_left
      · simp at hoi
        subst hoi
        refine ⟨by rfl, fun w' hw' => ?_⟩
        go_simp
        all_goals rfl
      try simp only [Act.put, List.setIfInBounds_toArray, List.set_cons_zero, List.set_cons_succ]
      refine later_take (i := 11) (d := 28) (v := ?_) (by kernel_rfl) (by kernel_rfl) (by kernel_rfl) (by kernel_rfl) (fun _ _ _ h => h) (fun oi hoi => ?_) ?_
      rotate_left
      · simp at hoi
        subst hoi
        refine ⟨by rfl, fun w' hw' => ?_⟩
        go_simp
        all_goals rfl
      try simp only [Act.put, List.setIfInBounds_toArray, List.set_cons_zero, List.set_cons_succ]
      refine later_take (i := 12) (d := 29) (v := ?_) (by kernel_rfl) (by kernel_rfl) (by kernel_rfl) (by kernel_rfl) (fun _ _ _ h => h) (fun oi hoi => ?_) ?_
      rotate_left
      · simp at hoi
        subst hoi
        refine ⟨by rfl, fun w' hw' => ?_⟩
        go_simp
        all_goals rfl
      try simp only [Act.put, List.setIfInBounds_toArray, List.set_cons_zero, List.set_cons_succ]
      refine later_take (i := 13) (d := 30) (v := ?_) (by kernel_rfl) (by kernel_rfl) (by kernel_rfl) (by kernel_rfl) (fun _ _ _ h => h) (fun oi hoi => ?_) ?_
      rotate_left
      · simp at hoi
        subst hoi
        refine ⟨by rfl, fun w' hw' => ?_⟩
        go_simp
        all_goals rfl
      try simp only [Act.put, List.setIfInBounds_toArray, List.set_cons_zero, List.set_cons_succ]
      refine later_take (i := 14) (d := 31) (v := ?_) (by kernel_rfl) (by kernel_rfl) (by kernel_rfl) (by kernel_rfl) (fun _ _ _ h => h) (fun oi hoi => ?_) ?_
      rotate_left
      · simp at hoi
        subst hoi
        refine ⟨by rfl, fun w' hw' => ?_⟩
        go_simp
        all_goals rfl
      try simp only [Act.put, List.setIfInBounds_toArray, List.set_cons_zero, List.set_cons_succ]
      refine later_take (i := 15) (d := 32) (v := ?_) (by kernel_rfl) (by kernel_rfl) (by kernel_rfl) (by kernel_rfl) (fun _ _ _ h => h) (fun oi hoi => ?_) ?_
      rotate_left
      · simp at hoi
        subst hoi
        refine ⟨by rfl, fun w' hw' => ?_⟩
        go_simp
        all_goals rfl
      try simp only [Act.put, List.setIfInBounds_toArray, List.set_cons_zero, List.set_cons_succ]
      refine later_take (i := 16) (d := 33) (v := ?_) (by kernel_rfl) (by kernel_rfl) (by kernel_rfl) (by kernel_rfl) (fun _ _ _ h => h) (fun oi hoi => ?_) ?_
      rotate_left
      · simp at hoi
        subst hoi
        refine ⟨by rfl, fun w' hw' => ?_⟩
        have hx := Blk.below (unhide A) hw'
        have x1 := hx.cell 1
        simp only [List.getElem?_toArray, List.getElem?_cons_succ, List.getElem?_cons_zero] at x1
        go_simp
        all_goals rfl
      try simp only [Act.put, List.setIfInBounds_toArray, List.set_cons_zero, List.set_cons_succ]
      refine later_take (i := 17) (d := 34) (v := ?_) (by kernel_rfl) (by kernel_rfl) (by kernel_rfl) (by kernel_rfl) (fun _ _ _ h => h) (fun oi hoi => ?_) ?_
      rotate_left
      · simp at hoi
        subst hoi
        refine ⟨by rfl, fun w' hw' => ?_⟩
        go_simp
        all_goals rfl
      try simp only [Act.put, List.setIfInBounds_toArray, List.set_cons_zero, List.set_cons_succ]
      refine later_take (i := 18) (d := 35) (v := ?_) (by kernel_rfl) (by kernel_rfl) (by kernel_rfl) (by kernel_rfl) (fun _ _ _ h => h) (fun oi hoi => ?_) ?_
      rotate_left
      · simp at hoi
        subst hoi
        refine ⟨by rfl, fun w' hw' => ?_⟩
        go_simp
        all_goals rfl
      try simp only [Act.put, List.setIfInBounds_toArray, List.set_cons_zero, List.set_cons_succ]
      refine later_take (i := 19) (d := 36) (v := ?_) (by kernel_rfl) (by kernel_rfl) (by kernel_rfl) (by kernel_rfl) (fun _ _ _ h => h) (fun oi hoi => ?_) ?_
      rotate_left
      · simp at hoi
        subst hoi
        refine ⟨by rfl, fun w' hw' => ?_⟩
        go_simp
        all_goals rfl
      try simp only [Act.put, List.setIfInBounds_toArray, List.set_cons_zero, List.set_cons_succ]
      refine later_take (i := 20) (d := 37) (v := ?_) (by kernel_rfl) (by kernel_rfl) (by kernel_rfl) (by kernel_rfl) (fun _ _ _ h => h) (fun oi hoi => ?_) ?_
      rotate_left
      · simp at hoi
        subst hoi
        refine ⟨by rfl, fun w' hw' => ?_⟩
        go_simp
        all_goals rfl
      try simp only [Act.put, List.setIfInBounds_toArray, List.set_cons_zero, List.set_cons_succ]
      refine later_take (i := 21) (d := 38) (v := ?_) (by kernel_rfl) (by kernel_rfl) (by kernel_rfl) (by kernel_rfl) (fun _ _ _ h => h) (fun oi hoi => ?_) ?_
      rotate_left
      · simp at hoi
        subst hoi
        refine ⟨by rfl, fun w' hw' => ?_⟩
        have hx := Blk.below (unhide X) hw'
        have x1 := hx.cell 1
        simp only [List.getElem?_toArray, List.getElem?_cons_succ, List.getElem?_cons_zero] at x1
        go_simp
        all_goals rfl
      try simp only [Act.put, List.setIfInBounds_toArray, List.set_cons_zero, List.set_cons_succ]
      refine later_take (i := 22) (d := 39) (v := ?_) (by kernel_rfl) (by kernel_rfl) (by kernel_rfl) (by kernel_rfl) (fun _ _ _ h => h) (fun oi hoi => ?_) ?_
      rotate_left
      · simp at hoi
        subst hoi
        refine ⟨by rfl, fun w' hw' => ?_⟩
        go_simp
        all_goals rfl
      try simp only [Act.put, List.setIfInBounds_toArray, List.set_cons_zero, List.set_cons_succ]
      refine later_take (i := 23) (d := 40) (v := ?_) (by kernel_rfl) (by kernel_rfl) (by kernel_rfl) (by kernel_rfl) (fun _ _ _ h => h) (fun oi hoi => ?_) ?_
      rotate_left
      · simp at hoi
        subst hoi
        refine ⟨by rfl, fun w' hw' => ?_⟩
        go_simp
        all_goals rfl
      try simp only [Act.put, List.setIfInBounds_toArray, List.set_cons_zero, List.set_cons_succ]
      refine later_take (i := 24) (d := 41) (v := ?_) (by kernel_rfl) (by kernel_rfl) (by kernel_rfl) (by kernel_rfl) (fun _ _ _ h => h) (fun oi hoi => ?_) ?_
      rotate_left
      · simp at hoi
        subst hoi
        refine ⟨by rfl, fun w' hw' => ?_⟩
        go_simp
        all_goals rfl
      try simp only [Act.put, List.setIfInBounds_toArray, List.set_cons_zero, List.set_cons_succ]
      refine later_take (i := 25) (d := 42) (v := ?_) (by kernel_rfl) (by kernel_rfl) (by kernel_rfl) (by kernel_rfl) (fun _ _ _ h => h) (fun oi hoi => ?_) ?_
      rotate_left
      · simp at hoi
        subst hoi
        refine ⟨by rfl, fun w' hw' => ?_⟩
        go_simp
        all_goals rfl
      try simp only [Act.put, List.setIfInBounds_toArray, List.set_cons_zero, List.set_cons_succ]
      refine later_take (i := 26) (d := 43) (v := ?_) (by kernel_rfl) (by kernel_rfl) (by kernel_rfl) (by kernel_rfl) (fun _ _ _ h => h) (fun oi hoi => ?_) ?_
      rotate_left
      · simp at hoi
        subst hoi
        refine ⟨by rfl, fun w' hw' => ?_⟩
        go_simp
        all_goals rfl
      try simp only [Act.put, List.setIfInBounds_toArray, List.set_cons_zero, List.set_cons_succ]
      refine later_take (i := 27) (d := 44) (v := ?_) (by kernel_rfl) (by kernel_rfl) (by kernel_rfl) (by kernel_rfl) (fun _ _ _ h => h) (fun oi hoi => ?_) ?_
      rotate_left
      · simp at hoi
        subst hoi
        refine ⟨by rfl, fun w' hw' => ?_⟩
        go_simp
        all_goals rfl
      try simp only [Act.put, List.setIfInBounds_toArray, List.set_cons_zero, List.set_cons_succ]
      refine later_take (i := 28) (d := 45) (v := ?_) (by kernel_rfl) (by kernel_rfl) (by kernel_rfl) (by kernel_rfl) (fun _ _ _ h => h) (fun oi hoi => ?_) ?_
      rotate_left
      · simp at hoi
        subst hoi
        refine ⟨by rfl, fun w' hw' => ?_⟩
        go_simp
        all_goals rfl
      try simp only [Act.put, List.setIfInBounds_toArray, List.set_cons_zero, List.set_cons_succ]
      refine later_take (i := 29) (d := 46) (v := ?_) (by kernel_rfl) (by kernel_rfl) (by kernel_rfl) (by kernel_rfl) (fun _ _ _ h => h) (fun oi hoi => ?_) ?_
      rotate_left
      · simp at hoi
        subst hoi
        refine ⟨by rfl, fun w' hw' => ?_⟩
        have hx := Blk.below (unhide A) hw'
        have x2 := hx.cell 2
        simp only [List.getElem?_toArray, List.getElem?_cons_succ, List.getElem?_cons_zero] at x2
        go_simp
        all_goals rfl
      try simp only [Act.put, List.setIfInBounds_toArray, List.set_cons_zero, List.set_cons_succ]
      refine later_take (i := 30) (d := 47) (v := ?_) (by kernel_rfl) (by kernel_rfl) (by kernel_rfl) (by kernel_rfl) (fun _ _ _ h => h) (fun oi hoi => ?_) ?_
      rotate_left
      · simp at hoi
        subst hoi
        refine ⟨by rfl, fun w' hw' => ?_⟩
        go_simp
        all_goals rfl
      try simp only [Act.put, List.setIfInBounds_toArray, List.set_cons_zero, List.set_cons_succ]
      refine later_take (i := 31) (d := 48) (v := ?_) (by kernel_rfl) (by kernel_rfl) (by kernel_rfl) (by kernel_rfl) (fun _ _ _ h => h) (fun oi hoi => ?_) ?_
      rotate_left
      · simp at hoi
        subst hoi
        refine ⟨by rfl, fun w' hw' => ?_⟩
        go_simp
        all_goals rfl
      try simp only [Act.put, List.setIfInBounds_toArray, List.set_cons_zero, List.set_cons_succ]
      refine later_take (i := 32) (d := 49) (v := ?_) (by kernel_rfl) (by kernel_rfl) (by kernel_rfl) (by kernel_rfl) (fun _ _ _ h => h) (fun oi hoi => ?_) ?_
      rotate_left
      · simp at hoi
        subst hoi
        refine ⟨by rfl, fun w' hw' => ?_⟩
        go_simp
        all_goals rfl
      try simp only [Act.put, List.setIfInBounds_toArray, List.set_cons_zero, List.set_cons_succ]
      refine later_take (i := 33) (d := 50) (v := ?_) (by kernel_rfl) (by kernel_rfl) (by kernel_rfl) (by kernel_rfl) (fun _ _ _ h => h) (fun oi hoi => ?_) ?_
      rotate_left
      · simp at hoi
        subst hoi
        refine ⟨by rfl, fun w' hw' => ?_⟩
        go_simp
        all_goals rfl
      try simp only [Act.put, List.setIfInBounds_toArray, List.set_cons_zero, List.set_cons_succ]
      refine later_take (i := 34) (d := 51) (v := ?_) (by kernel_rfl) (by kernel_rfl) (by kernel_rfl) (by kernel_rfl) (fun _ _ _ h => h) (fun oi hoi => ?_) ?_
      rotate_left
      · simp at hoi
        subst hoi
        refine ⟨by rfl, fun w' hw' => ?_⟩
        have hx := Blk.below (unhide X) hw'
        have x2 := hx.cell 2
        simp only [List.getElem?_toArray, List.getElem?_cons_succ, List.getElem?_cons_zero] at x2
        go_simp
        all_goals rfl
      try simp only [Act.put, List.setIfInBounds_toArray, List.set_cons_zero, List.set_cons_succ]
      refine later_one (i := 35) (by kernel_rfl) (fun oi K hoi hK => ?_)
      simp at hoi
      subst hoi
      refine ⟨by rfl, ?_⟩
      go_simp
      refine (keInts_any _ _ xs xs _ (unhide IS) (unhide IU)).mono ?_
      rw [show decide (xs = xs) = true by simp]
      rintro e w2 ⟨rfl, hb⟩
      go_simp
      refine hK.out _ _ hb ?_
      clear hK
      replace A := hide ((unhide A).below hb)
      replace X := hide ((unhide X).below hb)
      replace IS := hide ((unhide IS).below hb)
      replace IU := hide ((unhide IU).below hb)
      replace HB := hide (HB.out.trans (hb.mono HB.out.size))
      clear hb
      try simp only [Act.put, List.setIfInBounds_toArray, List.set_cons_zero, List.set_cons_succ]
      refine later_take (i := 36) (d := 53) (v := ?_) (by kernel_rfl) (by kernel_rfl) (by kernel_rfl) (by kernel_rfl) (fun _ _ _ h => h) (fun oi hoi => ?_) ?_
      rotate_left
      · simp at hoi
        subst hoi
        refine ⟨by rfl, fun w' hw' => ?_⟩
        go_simp
        all_goals rfl
      try simp only [Act.put, List.setIfInBounds_toArray, List.set_cons_zero, List.set_cons_succ]
      refine later_take (i := 37) (d := 54) (v := ?_) (by kernel_rfl) (by kernel_rfl) (by kernel_rfl) (by kernel_rfl) (fun _ _ _ h => h) (fun oi hoi => ?_) ?_
      rotate_left
      · simp at hoi
        subst hoi
        refine ⟨by rfl, fun w' hw' => ?_⟩
        go_simp
        all_goals rfl
      try simp only [Act.put, List.setIfInBounds_toArray, List.set_cons_zero, List.set_cons_succ]
      refine later_done (by kernel_rfl) ?_ _
      go_wp2_with fail
      go_roundw
      case rel => exact ⟨1, by omega, rfl, A, X, IS, IU, HB⟩
      case measure => simp [intOf]
    · rw [show ((1 : Nat) : Int) = 1 from rfl]
      go_wp2_with fail
      go_ret
      exact ⟨rfl, unhide HB⟩
#print axioms keWins_one
end Go.Proofs.Ytgdhlnfigcaepaa
/-
  The specification's FraText: whether a text may be said.
-/
namespace Go.Proofs.Ytgdhlnfigcaepaa
open Go.RowKit

def letB (b : UInt8) : Bool := decide (97 ≤ b.toNat) && decide (b.toNat ≤ 122)
/-- A text that may be said. -/
def textB (s : ByteArray) : Bool := decide (s.size ≤ 8) && s.data.toList.all letB
theorem text_long {s : ByteArray} (h : ¬ s.size ≤ 8) : textB s = false := by unfold textB; rw [decide_eq_false h]; rfl
theorem text_no {s : ByteArray} {k : Nat} (hk : k < s.size) (h : letB s[k] = false) : textB s = false := by
  unfold textB
  have : s.data.toList.all letB = false := by
    rw [List.all_eq_false]
    exact ⟨s[k], List.getElem_mem (l := s.data.toList) (by simpa using hk), by rw [h]; simp⟩
  rw [this, Bool.and_false]
theorem text_yes {s : ByteArray} (hl : s.size ≤ 8) (h : ∀ t (ht : t < s.size), letB s[t] = true) : textB s = true := by
  unfold textB
  rw [decide_eq_true hl, Bool.true_and, List.all_eq_true]
  intro b hb
  obtain ⟨t, ht, rfl⟩ := List.mem_iff_getElem.1 hb
  exact h t (by simpa using ht)

set_option maxHeartbeats 1000000 in
theorem sFraText_any (s : ByteArray) (w : World) :
    Calls Try.prog 12 #[.string s] w fun e w' => e = .returned (.bool (textB s)) ∧ w' = w := by
  by_cases hl : s.size ≤ 8
  · have hl2 : decide ((8 : Int) < (s.size : Int)) = false := by simp; omega
    have hl3 : (s.size : Int) ≤ 8 := by omega
    go_enter Try.func12, Try.ntmps12
    go_wp2_with fail
    go_loop [3] (fun i => ∃ k : Nat, k ≤ s.size ∧ i = .int .i64 (k : Int) ∧ Hid (∀ t (_ : t < k) (ht : t < s.size), letB s[t] = true)) (fun i => s.size - (intOf i).toNat)
    case atStart => exact ⟨0, Nat.zero_le _, rfl, fun t ht => absurd ht (Nat.not_lt_zero _)⟩
    case round =>
      obtain ⟨k, hk, rfl, hE⟩ := hrel
      by_cases hlt : k < s.size
      · have i3 : IntKind.i64.wrap ((k : Int) + 1) = (k : Int) + 1 := by simp [IntKind.wrap, IntKind.bits, IntKind.signed]; omega
        have hlt2 : (k : Int) < (s.size : Int) := by omega
        by_cases h1 : s[k].toNat < 97
        · have HT := hide (text_no hlt (by unfold letB; rw [decide_eq_false (by omega)]; rfl))
          have h2 : (s[k].toNat : Int) < 97 := by omega
          go_wp2_with fail
          go_ret
          exact ⟨by rw [HT.out]; rfl, rfl⟩
        · have h2 : decide ((s[k].toNat : Int) < 97) = false := by simp; omega
          have h3 : 97 ≤ s[k].toNat := by omega
          by_cases h4 : s[k].toNat ≤ 122
          · have h5 : decide ((122 : Int) < (s[k].toNat : Int)) = false := by simp; omega
            have HL : Hid (letB s[k] = true) := by show _ = _; unfold letB; rw [decide_eq_true h3, decide_eq_true h4]; rfl
            go_wp2_with fail
            go_round
            case rel =>
              refine ⟨k + 1, by omega, by simp, fun t htk ht => ?_⟩
              by_cases e : t = k
              · subst e; exact HL.out
              · exact hE.out t (by omega) ht
            case measure => simp [intOf]; omega
          · have HT := hide (text_no hlt (by unfold letB; rw [decide_eq_false h4, Bool.and_false]))
            have h5 : (122 : Int) < (s[k].toNat : Int) := by omega
            go_wp2_with fail
            go_ret
            exact ⟨by rw [HT.out]; rfl, rfl⟩
      · have hlt2 : decide ((k : Int) < (s.size : Int)) = false := by simp; omega
        have hkk : k = s.size := by omega
        have HT := hide (text_yes hl (fun t ht => hE.out t (by omega) ht))
        go_wp2_with fail
        go_ret
        exact ⟨by rw [HT.out]; rfl, rfl⟩
  · have hl2 : (8 : Int) < (s.size : Int) := by omega
    have HT := hide (text_long hl)
    go_enter Try.func12, Try.ntmps12
    go_wp2_with fail
    go_ret
    exact ⟨by rw [HT.out]; rfl, rfl⟩
#print axioms sFraText_any
end Go.Proofs.Ytgdhlnfigcaepaa
/-
  A frame, as a value; whether it is ok, as plain words.
-/
namespace Go.Proofs.Ytgdhlnfigcaepaa
open Go.RowKit

/-- What one says. -/
structure Fra where
  fr : Int
  key : ByteArray
  n : Int
  text : ByteArray
abbrev fraC (fr : Int) (key : ByteArray) (n : Int) (text : ByteArray) : Array Value := #[.int .i64 fr, .string key, .int .i64 n, .string text]
abbrev Fra.cells (f : Fra) : Array Value := fraC f.fr f.key f.n f.text
/-- Whether a frame is ok. -/
def fraOk (f : Fra) : Bool := inB 0 7 f.fr && (Kw.ok f.key && (decide (mOp f.key = 5) && (decide (mWho f.key = f.fr) && (inB 1 999 f.n && textB f.text))))
theorem fraOk_eq (f : Fra) : fraOk f = (inB 0 7 f.fr && (Kw.ok f.key && (decide (mOp f.key = 5) && (decide (mWho f.key = f.fr) && (inB 1 999 f.n && textB f.text))))) := rfl
end Go.Proofs.Ytgdhlnfigcaepaa
/-
  The program's FraText: whether a text may be said.
-/
namespace Go.Proofs.Ytgdhlnfigcaepaa
open Go.RowKit

set_option maxHeartbeats 1000000 in
theorem iFraText_any (s : ByteArray) (w : World) :
    Calls Try.prog 13 #[.string s] w fun e w' => e = .returned (.bool (textB s)) ∧ w' = w := by
  by_cases hl : s.size ≤ 8
  · have hl2 : decide ((8 : Int) < (s.size : Int)) = false := by simp; omega
    have hl3 : (s.size : Int) ≤ 8 := by omega
    go_enter Try.func13, Try.ntmps13
    go_wp2_with fail
    go_loop [9] (fun i => ∃ k : Nat, k ≤ s.size ∧ i = .int .i64 (k : Int) ∧ Hid (∀ t (_ : t < k) (ht : t < s.size), letB s[t] = true)) (fun i => s.size - (intOf i).toNat)
    case atStart => exact ⟨0, Nat.zero_le _, rfl, fun t ht => absurd ht (Nat.not_lt_zero _)⟩
    case round =>
      obtain ⟨k, hk, rfl, hE⟩ := hrel
      by_cases hlt : k < s.size
      · have i3 : IntKind.i64.wrap ((k : Int) + 1) = (k : Int) + 1 := by simp [IntKind.wrap, IntKind.bits, IntKind.signed]; omega
        have hlt2 : (k : Int) < (s.size : Int) := by omega
        by_cases h1 : s[k].toNat < 97
        · have HT := hide (text_no hlt (by unfold letB; rw [decide_eq_false (by omega)]; rfl))
          have h2 : (s[k].toNat : Int) < 97 := by omega
          go_wp2_with fail
          go_ret
          exact ⟨by rw [HT.out]; rfl, rfl⟩
        · have h2 : decide ((s[k].toNat : Int) < 97) = false := by simp; omega
          have h3 : 97 ≤ s[k].toNat := by omega
          by_cases h4 : s[k].toNat ≤ 122
          · have h5 : decide ((122 : Int) < (s[k].toNat : Int)) = false := by simp; omega
            have HL : Hid (letB s[k] = true) := by show _ = _; unfold letB; rw [decide_eq_true h3, decide_eq_true h4]; rfl
            go_wp2_with fail
            go_round
            case rel =>
              refine ⟨k + 1, by omega, by simp, fun t htk ht => ?_⟩
              by_cases e : t = k
              · subst e; exact HL.out
              · exact hE.out t (by omega) ht
            case measure => simp [intOf]; omega
          · have HT := hide (text_no hlt (by unfold letB; rw [decide_eq_false h4, Bool.and_false]))
            have h5 : (122 : Int) < (s[k].toNat : Int) := by omega
            go_wp2_with fail
            go_ret
            exact ⟨by rw [HT.out]; rfl, rfl⟩
      · have hlt2 : decide ((k : Int) < (s.size : Int)) = false := by simp; omega
        have hkk : k = s.size := by omega
        have HT := hide (text_yes hl (fun t ht => hE.out t (by omega) ht))
        go_wp2_with fail
        go_ret
        exact ⟨by rw [HT.out]; rfl, rfl⟩
  · have hl2 : (8 : Int) < (s.size : Int) := by omega
    have HT := hide (text_long hl)
    go_enter Try.func13, Try.ntmps13
    go_wp2_with fail
    go_ret
    exact ⟨by rw [HT.out]; rfl, rfl⟩
#print axioms iFraText_any
end Go.Proofs.Ytgdhlnfigcaepaa
/-
  The program's FraOk, and isNumber.
-/
namespace Go.Proofs.Ytgdhlnfigcaepaa
open Go.RowKit

set_option maxHeartbeats 400000 in
theorem isNumber_any (n : Int) (w : World) : Calls Try.prog 40 #[.int .i64 n] w fun e w' => e = .returned (.bool (inB 1 999 n)) ∧ w' = w := by
  by_cases h : 1 ≤ n
  · by_cases h2 : n ≤ 999
    · have HE : Hid (inB 1 999 n = true) := by show _ = _; unfold inB; simp [h, h2]
      go_enter Try.func40, Try.ntmps40
      go_wp2_with fail
      go_ret
      exact ⟨ret_bool' HE.out.symm, rfl⟩
    · have HE : Hid (inB 1 999 n = false) := by show _ = _; unfold inB; simp [h2]
      have h3 : decide (n ≤ 999) = false := by simpa using h2
      go_enter Try.func40, Try.ntmps40
      go_wp2_with fail
      go_ret
      exact ⟨ret_bool' HE.out.symm, rfl⟩
  · have HE : Hid (inB 1 999 n = false) := by show _ = _; unfold inB; simp [h]
    have h3 : decide (1 ≤ n) = false := by simpa using h
    go_enter Try.func40, Try.ntmps40
    go_wp2_with fail
    go_ret
    exact ⟨ret_bool' HE.out.symm, rfl⟩
theorem isOne_any (n : Int) (w : World) : Calls Try.prog 39 #[.int .i64 n] w fun e w' => e = .returned (.bool (inB 0 7 n)) ∧ w' = w := by
  by_cases h : 0 ≤ n ∧ n ≤ 7
  · rw [show inB 0 7 n = true by unfold inB; simp [h.1, h.2]]
    exact isOne_yes n w h.1 (by omega)
  · rw [show inB 0 7 n = false by unfold inB; simp; omega]
    exact isOne_no n w (by omega)
theorem mOp_name {s : ByteArray} {n : Int} (h : mOp s = n) (hn : n ≠ 0) : Kw.ok s = true := by
  cases q : Kw.ok s with
  | true => rfl
  | false => exact absurd (by rw [← h]; unfold mOp; rw [if_neg (by rw [q]; simp)]) hn
theorem fraOk_impl (f : Fra) : fraOk f = (inB 0 7 f.fr && (decide (mOp f.key = 5) && (decide (mWho f.key = f.fr) && (inB 1 999 f.n && textB f.text)))) := by
  rw [fraOk_eq]
  by_cases h : mOp f.key = 5
  · rw [mOp_name h (by decide)]; simp
  · simp [h]

set_option maxRecDepth 100000 in
set_option maxHeartbeats 2000000 in
theorem iFraOk_any (f : Fra) (w : World) (hm : f.key.size ≤ maxLen) :
    Calls Try.prog 17 #[.agg f.cells] w fun e w' => e = .returned (.bool (fraOk f)) ∧ Below w.heap.size w w' := by
  have HE : Hid (fraOk f = _) := fraOk_impl f
  obtain ⟨fr, key, n, text⟩ := f
  simp only at hm HE ⊢
  have M := hide hm
  clear hm
  obtain ⟨r, hr⟩ : ∃ r, fraOk ⟨fr, key, n, text⟩ = r := ⟨_, rfl⟩
  rw [hr] at HE ⊢
  clear hr
  have A := hide (Blk.new w 27 (fraC fr key n text))
  have HB : Hid (Below w.heap.size w (w.alloc (.cells (fraC fr key n text) 27))) := (Below.refl _ _).alloc (Nat.le_refl _) _
  go_enter Try.func17, Try.ntmps17
  go_wp2_with fail
  generalize w.alloc (.cells (fraC fr key n text) 27) = W0 at *
  refine (iSecMade_any key _ M.out).mono ?_
  rw [how_field]
  rintro e w1 ⟨rfl, hb⟩
  replace A := hide ((unhide A).below hb)
  replace HB := hide (HB.out.trans (hb.mono HB.out.size))
  clear hb
  have B := hide (Blk.new w1 49 #[.int .i64 (mOp key), .int .i64 (mWho key), .int .i64 (mN key), .string (mA key), .string (mB key)])
  have A2 := hide ((unhide A).alloc (.cells #[.int .i64 (mOp key), .int .i64 (mWho key), .int .i64 (mN key), .string (mA key), .string (mB key)] 49))
  have HBS := HB.out.size
  have HB2 := hide (HB.out.alloc HBS (.cells #[.int .i64 (mOp key), .int .i64 (mWho key), .int .i64 (mN key), .string (mA key), .string (mB key)] 49))
  have c0 := (unhide A2).cell 0
  simp only [List.getElem?_toArray, List.getElem?_cons_zero] at c0
  clear HBS
  go_wp2_with fail
  clear c0
  refine (isOne_any fr _).mono ?_
  obtain ⟨b0, hb0⟩ : ∃ b, inB 0 7 fr = b := ⟨_, rfl⟩
  rw [hb0] at HE ⊢
  clear hb0
  cases b0 with
  | false =>
    rintro e wz ⟨rfl, rfl⟩
    have HF : Hid (r = false) := by show _ = _; rw [HE.out]; simp
    clear HE
    go_wp2_with fail
    go_ret
    exact ⟨ret_bool' HF.out.symm, unhide HB2⟩
  | true =>
    rintro e wz ⟨rfl, rfl⟩
    simp only [Bool.true_and] at HE
    generalize w1.alloc (.cells #[.int .i64 (mOp key), .int .i64 (mWho key), .int .i64 (mN key), .string (mA key), .string (mB key)] 49) = W2 at *
    have d0 := (unhide B).cell 0
    have d1 := (unhide B).cell 1
    have c0 := (unhide A2).cell 0
    have c2 := (unhide A2).cell 2
    simp only [List.getElem?_toArray, List.getElem?_cons_zero, List.getElem?_cons_succ] at d0 d1 c0 c2
    clear A HB
    by_cases h5 : mOp key = 5
    rotate_left
    · have HF : Hid (r = false) := by show _ = _; rw [HE.out]; simp [h5]
      have h6 : (mOp key == 5) = false := by simpa using h5
      clear HE h5
      go_wp2_with fail
      go_ret
      exact ⟨ret_bool' HF.out.symm, unhide HB2⟩
    have h6 : (mOp key == 5) = true := by simpa using h5
    rw [show decide (mOp key = 5) = true by simpa using h5] at HE
    simp only [Bool.true_and] at HE
    clear h5
    by_cases h7 : mWho key = fr
    rotate_left
    · have HF : Hid (r = false) := by show _ = _; rw [HE.out]; simp [h7]
      have h8 : (mWho key == fr) = false := by simpa using h7
      clear HE h7
      go_wp2_with fail
      go_ret
      exact ⟨ret_bool' HF.out.symm, unhide HB2⟩
    have h8 : (mWho key == fr) = true := by simpa using h7
    rw [show decide (mWho key = fr) = true by simpa using h7] at HE
    simp only [Bool.true_and] at HE
    clear h7
    go_wp2_with fail
    refine (isNumber_any n _).mono ?_
    obtain ⟨b1, hb1⟩ : ∃ b, inB 1 999 n = b := ⟨_, rfl⟩
    rw [hb1] at HE ⊢
    clear hb1
    cases b1 with
    | false =>
      rintro e wz ⟨rfl, rfl⟩
      have HF : Hid (r = false) := by show _ = _; rw [HE.out]; simp
      clear HE
      go_wp2_with fail
      go_ret
      exact ⟨ret_bool' HF.out.symm, unhide HB2⟩
    | true =>
      rintro e wz ⟨rfl, rfl⟩
      simp only [Bool.true_and] at HE
      have c3 := (unhide A2).cell 3
      simp only [List.getElem?_toArray, List.getElem?_cons_zero, List.getElem?_cons_succ] at c3
      go_wp2_with fail
      refine (iFraText_any text _).mono ?_
      rw [← HE.out]
      rintro e wz ⟨rfl, rfl⟩
      go_wp2_with fail
      go_ret
      exact ⟨rfl, unhide HB2⟩
#print axioms iFraOk_any
end Go.Proofs.Ytgdhlnfigcaepaa
/-
  The program's WinOk: isTooFar, fallsFrom.
-/
namespace Go.Proofs.Ytgdhlnfigcaepaa
open Go.RowKit

theorem irow_at {w w' : World} {ao : Option Addr} {n cap : Nat} {xs : List Int} (h : IRow w (.slice ao n cap) xs) (hb : Below w.heap.size w w') {i : Nat} (hi : i < xs.length) : ∃ a, ao = some a ∧ w'.cell? (a.add i) = some (.int .i64 (xs.getD i 0)) := by
  obtain ⟨ao', c, q, _, _, q2⟩ := (h.below hb).form
  simp only [Value.slice.injEq] at q
  obtain ⟨rfl, _, rfl⟩ := q
  exact q2 i hi
set_option maxHeartbeats 400000 in
theorem isTooFar_any (n top : Int) (w : World) (h1 : -10000 ≤ n ∧ n ≤ 10000) (h2 : -10000 ≤ top ∧ top ≤ 10000) :
    Calls Try.prog 62 #[.int .i64 n, .int .i64 top] w fun e w' => e = .returned (.bool (decide (8 ≤ top - n))) ∧ w' = w := by
  have i1 : IntKind.i64.wrap (top - n) = top - n := by simp [IntKind.wrap, IntKind.bits, IntKind.signed]; omega
  go_enter Try.func62, Try.ntmps62
  go_wp2_with fail
  go_ret
  exact ⟨rfl, rfl⟩

set_option maxRecDepth 100000 in
set_option maxHeartbeats 2000000 in
theorem fallsFrom_any (top : Int) (xs : List Int) (v : Value) (w : World) (hI : IRow w v xs) (ht : 1 ≤ top ∧ top ≤ 999) (hl : xs.length ≤ 2000000) :
    Calls Try.prog 43 #[.int .i64 top, v] w fun e w' => e = .returned (.bool (fallsB top xs)) ∧ Below w.heap.size w w' := by
  have HI := hide hI
  obtain ⟨ao, cap, rfl, _, hcap, _⟩ := hI.form
  clear hI
  unfold maxLen at hcap
  obtain ⟨r, hr⟩ : ∃ r, fallsB top xs = r := ⟨_, rfl⟩
  have HR := hide hr
  rw [hr]
  clear hr
  by_cases hl0 : 0 < xs.length
  rotate_left
  · obtain rfl : xs = [] := List.eq_nil_of_length_eq_zero (by omega)
    have HF : Hid (r = false) := by show _ = _; rw [← HR.out]; rfl
    clear HR
    simp only [List.length_nil]
    go_enter Try.func43, Try.ntmps43
    go_wp2_with fail
    go_ret
    exact ⟨ret_bool' HF.out.symm, Below.refl _ _⟩
  have hz1 : ((xs.length : Int) == 0) = false := by simp; intro q; rw [q] at hl0; simp at hl0
  have hz2 : (xs.length == 0) = false := by simp; intro q; rw [q] at hl0; simp at hl0
  have hz3 : (0 : Int) < (xs.length : Int) := by omega
  obtain ⟨a0, rfl, c0⟩ := irow_at (unhide HI) (Below.refl w.heap.size w) hl0
  obtain ⟨y0, hy0⟩ : ∃ y, xs.getD 0 0 = y := ⟨_, rfl⟩
  have HY := hide hy0
  have c8 : w.cell? a0 = some (.int .i64 y0) := by rw [← hy0]; exact c0
  clear hy0 c0
  by_cases hf : y0 = top
  rotate_left
  · have hq1 : (y0 != top) = true := by simpa using hf
    have hq2 : (y0 == top) = false := by simpa using hf
    have HF : Hid (r = false) := by show _ = _; rw [← HR.out]; exact falls_first (by rw [HY.out]; exact hf)
    clear hf HR
    go_enter Try.func43, Try.ntmps43
    go_wp2_with fail
    go_ret
    exact ⟨ret_bool' HF.out.symm, Below.refl _ _⟩
  subst hf
  have i1 : IntKind.i64.wrap (y0 + 1) = y0 + 1 := by simp [IntKind.wrap, IntKind.bits, IntKind.signed]; omega
  go_enter Try.func43, Try.ntmps43
  go_wp2_with fail
  clear c8 hz1 hz2
  go_loop [5, 22] (fun l i => ∃ (k : Nat) (last : Int), k ≤ xs.length ∧ i = .int .i64 (k : Int) ∧ l = .int .i64 last ∧ last ≤ 1000 ∧ Hid (last = if k = 0 then y0 + 1 else xs.getD (k - 1) 0) ∧ Hid (∀ j, j < k → 1 ≤ j → goodAt y0 xs j = true)) (fun _ i => xs.length - (intOf i).toNat)
  case atStart => exact ⟨0, y0 + 1, by omega, rfl, rfl, by omega, by show _ = _; rfl, fun j hj => by omega⟩
  case round =>
    obtain ⟨k, last, hk, rfl, rfl, hla, hL, hG⟩ := hrel
    by_cases hlt : k < xs.length
    rotate_left
    · have hlt2 : decide ((k : Int) < (xs.length : Int)) = false := by simp; omega
      have HF : Hid (r = true) := by show _ = _; rw [← HR.out]; exact falls_all hl0 HY.out (fun j hj h1 => hG.out j (by omega) h1)
      clear HR
      go_wp2_with fail
      go_ret
      exact ⟨ret_bool' HF.out.symm, Below.refl _ _⟩
    have hlt2 : (k : Int) < (xs.length : Int) := by omega
    have hk0 : (0 : Int) ≤ (k : Int) := by omega
    obtain ⟨_, e9, ca⟩ := irow_at (unhide HI) (Below.refl w.heap.size w) hlt
    cases e9
    have i3 : IntKind.i64.wrap ((k : Int) + 1) = (k : Int) + 1 := by simp [IntKind.wrap, IntKind.bits, IntKind.signed]; omega
    have hGO : Hid (1 ≤ k → goodAt y0 xs k = (decide (xs.getD k 0 < last) && (decide (y0 - 8 < xs.getD k 0) && decide (1 ≤ xs.getD k 0)))) := by intro h1; rw [hL.out, if_neg (by omega)]; rfl
    have HBAD : Hid (1 ≤ k → goodAt y0 xs k = false → fallsB y0 xs = false) := fun h1 q => falls_bad (top := y0) hlt h1 q
    have HZ : Hid (k = 0 → xs.getD k 0 = y0 ∧ last = y0 + 1) := fun e => ⟨by rw [e]; exact HY.out, by rw [hL.out, if_pos e]⟩
    have HN : Hid (xs.getD (k + 1 - 1) 0 = xs.getD k 0) := rfl
    generalize xs.getD k 0 = y at *
    clear hL
    by_cases g1 : 1 ≤ y
    rotate_left
    · have g2 : y < 1 := by omega
      have HF : Hid (r = false) := by
        show _ = _
        rw [← HR.out]
        by_cases e : k = 0
        · exact absurd (HZ.out e) (by omega)
        · exact HBAD.out (by omega) (by rw [hGO.out (by omega), decide_eq_false g1]; simp)
      clear HR g1
      go_wp2_with fail
      go_ret
      exact ⟨ret_bool' HF.out.symm, Below.refl _ _⟩
    have g2 : decide (y < 1) = false := by simp; omega
    by_cases g3 : y < last
    rotate_left
    · have g4 : last ≤ y := by omega
      have HF : Hid (r = false) := by
        show _ = _
        rw [← HR.out]
        by_cases e : k = 0
        · exact absurd (HZ.out e) (by omega)
        · exact HBAD.out (by omega) (by rw [hGO.out (by omega), decide_eq_false g3]; simp)
      clear HR g3
      go_wp2_with fail
      go_ret
      exact ⟨ret_bool' HF.out.symm, Below.refl _ _⟩
    have g4 : decide (last ≤ y) = false := by simp; omega
    go_wp2_with fail
    refine (isTooFar_any y y0 _ (by omega) (by omega)).mono ?_
    by_cases g5 : y0 - 8 < y
    rotate_left
    · rw [show decide (8 ≤ y0 - y) = true by simp; omega]
      rintro e wz ⟨rfl, rfl⟩
      have HF : Hid (r = false) := by
        show _ = _
        rw [← HR.out]
        by_cases e : k = 0
        · exact absurd (HZ.out e) (by omega)
        · exact HBAD.out (by omega) (by rw [hGO.out (by omega), decide_eq_false g5]; simp)
      clear HR g3 g5
      go_wp2_with fail
      go_ret
      exact ⟨ret_bool' HF.out.symm, Below.refl _ _⟩
    rw [show decide (8 ≤ y0 - y) = false by simp; omega]
    rintro e wz ⟨rfl, rfl⟩
    have HGK : Hid (1 ≤ k → goodAt y0 xs k = true) := by intro h1; rw [hGO.out h1]; simp [g1, g3, g5]
    have hy1 : y ≤ 1000 := by omega
    clear g3 g5
    go_wp2_with fail
    refine ⟨⟨k + 1, y, by omega, by simp, rfl, by omega, ?_, fun j hj h1 => ?_⟩, by simp [intOf]; omega⟩
    · show _ = _
      rw [if_neg (by omega), HN.out]
    · by_cases e : j = k
      · subst e; exact HGK.out h1
      · exact hG.out j (by omega) h1
theorem winOk_impl (x : Win) : winOk x = (decide (mOp x.key = 5) && (inB 1 999 x.top && fallsB x.top x.seen)) := by
  rw [winOk_eq]
  by_cases h : mOp x.key = 5
  · rw [mOp_name h (by decide)]; simp
  · simp [h]

set_option maxRecDepth 100000 in
set_option maxHeartbeats 2000000 in
theorem iWinOk_any (x : Win) (v : Value) (w : World) (hI : IRow w v x.seen) (hm : x.key.size ≤ maxLen) (hl : x.seen.length ≤ 2000000) :
    Calls Try.prog 21 #[.agg (x.cells v)] w fun e w' => e = .returned (.bool (winOk x)) ∧ Below w.heap.size w w' := by
  have HE : Hid (winOk x = _) := winOk_impl x
  obtain ⟨key, top, xs⟩ := x
  simp only at hI hm hl HE ⊢
  have M := hide hm
  have HI := hide hI
  obtain ⟨ao, cap, rfl, _, hcap, _⟩ := hI.form
  clear hm hI
  obtain ⟨r, hr⟩ : ∃ r, winOk ⟨key, top, xs⟩ = r := ⟨_, rfl⟩
  rw [hr] at HE ⊢
  clear hr
  have A := hide (Blk.new w 35 (winC key top (.slice ao xs.length cap)))
  have HB : Hid (Below w.heap.size w (w.alloc (.cells (winC key top (.slice ao xs.length cap)) 35))) := (Below.refl _ _).alloc (Nat.le_refl _) _
  go_enter Try.func21, Try.ntmps21
  go_wp2_with fail
  generalize w.alloc (.cells (winC key top (.slice ao xs.length cap)) 35) = W0 at *
  refine (iSecMade_any key _ M.out).mono ?_
  rw [how_field]
  rintro e w1 ⟨rfl, hb⟩
  replace A := hide ((unhide A).below hb)
  replace HB := hide (HB.out.trans (hb.mono HB.out.size))
  have hfl := field_op
  clear hb
  by_cases h5 : mOp key = 5
  rotate_left
  · have HF : Hid (r = false) := by show _ = _; rw [HE.out]; simp [h5]
    have h6 : (mOp key == 5) = false := by simpa using h5
    clear HE h5
    go_wp2_with fail
    go_ret
    exact ⟨ret_bool' HF.out.symm, unhide HB⟩
  have h6 : (mOp key == 5) = true := by simpa using h5
  rw [show decide (mOp key = 5) = true by simpa using h5] at HE
  simp only [Bool.true_and] at HE
  have c1 := (unhide A).cell 1
  simp only [List.getElem?_toArray, List.getElem?_cons_zero, List.getElem?_cons_succ] at c1
  clear h5
  go_wp2_with fail
  refine (isNumber_any top _).mono ?_
  obtain ⟨b1, hb1⟩ : ∃ b, inB 1 999 top = b := ⟨_, rfl⟩
  rw [hb1] at HE ⊢
  have H1 := hide hb1
  clear hb1
  cases b1 with
  | false =>
    rintro e wz ⟨rfl, rfl⟩
    have HF : Hid (r = false) := by show _ = _; rw [HE.out]; simp
    clear HE
    go_wp2_with fail
    go_ret
    exact ⟨ret_bool' HF.out.symm, unhide HB⟩
  | true =>
    rintro e wz ⟨rfl, rfl⟩
    simp only [Bool.true_and] at HE
    have c2 := (unhide A).cell 2
    simp only [List.getElem?_toArray, List.getElem?_cons_zero, List.getElem?_cons_succ] at c2
    go_wp2_with fail
    refine (fallsFrom_any top xs _ _ ((unhide HI).below HB.out) (by have := H1.out; unfold inB at this; simpa using this) hl).mono ?_
    rw [← HE.out]
    rintro e w2 ⟨rfl, hb⟩
    replace HB := hide (HB.out.trans (hb.mono HB.out.size))
    clear hb
    go_wp2_with fail
    go_ret
    exact ⟨rfl, unhide HB⟩
#print axioms iWinOk_any
end Go.Proofs.Ytgdhlnfigcaepaa
