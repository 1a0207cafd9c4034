/-
  The program's ring of bits: turnTo, take.
-/
import Derived.Test.YtgdhlnfigcaepaaFnWinTakeB12
import Derived.Test.YtgdhlnfigcaepaaFnWinTakeB6
import Derived.Test.YtgdhlnfigcaepaaFnWinTakeB5
import Derived.Test.YtgdhlnfigcaepaaFnWinTakeB10
import Derived.Test.YtgdhlnfigcaepaaFnWinTakeB2
namespace Go.Proofs.Ytgdhlnfigcaepaa
open Go.RowKit

/-- What is left of bits behind a turn to a greater number. -/
def Turned (top b t bt : Nat) : Prop := bt < 256 ∧ ∀ m, 1 ≤ m → m ≤ t → t < m + 8 → bt.testBit (m % 8) = (decide (m ≤ top) && b.testBit (m % 8))
theorem turned_refl {top b : Nat} (hb : b < 256) : Turned top b top b := ⟨hb, fun m _ h _ => by rw [decide_eq_true h]; rfl⟩
theorem turned_step {top b t bt : Nat} (h : Turned top b t bt) (ht : top ≤ t) : Turned top b (t + 1) (clrB bt ((t + 1) % 8)) := by
  have h8 : (t + 1) % 8 < 8 := Nat.mod_lt _ (by decide)
  refine ⟨(clr_val h.1 h8).2, fun m h1 h2 h3 => ?_⟩
  have hm8 : m % 8 < 8 := Nat.mod_lt _ (by decide)
  rw [test_clr h.1 h8 hm8]
  by_cases e : m = t + 1
  · subst e
    rw [decide_eq_false (show ¬ (t + 1 ≤ top) by omega)]
    simp
  · rw [h.2 m h1 (by omega) (by omega)]
    have hne : ((t + 1) % 8 == m % 8) = false := by simp; omega
    rw [hne]
    simp

theorem clr_pow {b r : Nat} (hb : b < 256) (hr : r < 8) : bits .andNot .u64 (b : Int) (2 ^ r) = (clrB b r : Int) := by rw [show (2 : Int) ^ r = ((2 ^ r : Nat) : Int) by simp]; exact (clr_val hb hr).1
theorem or_pow {b r : Nat} (hb : b < 256) (hr : r < 8) : bits .or .u64 (b : Int) (2 ^ r) = (setB b r : Int) := by rw [show (2 : Int) ^ r = ((2 ^ r : Nat) : Int) by simp]; exact (or_val hb hr).1

set_option maxRecDepth 100000 in
set_option maxHeartbeats 4000000 in
theorem turnTo_any (rb top b n : Nat) (w : World) (hR : Blk w rb 66 (ringC top b)) (hb : b < 256) (hn : n ≤ 2000) :
    Calls Try.prog 67 #[.pointer (some ⟨rb, 0, none⟩), .int .i64 (n : Int)] w fun e w' => ∃ b', e = .returned (.tuple #[]) ∧ Blk w' rb 66 (ringC (max top n) b') ∧ Turned top b (max top n) b' ∧ w.grownBy w' (some rb) := by
  have A := hide hR
  have HT := hide (turned_refl (top := top) hb)
  clear hR
  go_enter Try.func67, Try.ntmps67
  go_wp2_with fail
  go_loopw [] (fun wr => ∃ t bt : Nat, top ≤ t ∧ t ≤ max top n ∧ Hid (Blk wr rb 66 (ringC t bt)) ∧ Hid (Turned top b t bt) ∧ Hid (w.grownBy wr (some rb))) (fun wr => n - (intOf ((wr.cell? ⟨rb, 0, none⟩).getD undef)).toNat)
  case atStart => exact ⟨top, b, Nat.le_refl _, by omega, A, HT, ⟨rfl, rfl, rfl, Nat.le_refl _, fun _ _ _ => rfl⟩⟩
  case round =>
    clear A HT
    obtain ⟨t, bt, h1, h2, A, HT, HG⟩ := hrel
    generalize wr = w1 at *
    have hbt := HT.out.1
    have c0 := (unhide A).cell 0
    have f0 := (unhide A).frozen 0
    simp only [List.getElem?_toArray, List.getElem?_cons_zero] at c0
    by_cases hlt : t < n
    rotate_left
    · have hlt2 : decide ((t : Int) < (n : Int)) = false := by simp; omega
      have hlt3 : decide (t < n) = false := by simp; omega
      have hm : max top n = t := by omega
      go_wp2_with fail
      refine bodyPost_end (v := .tuple #[]) (by simp [results, Try.results67, go_sem]) rfl ?_
      rw [hm]
      exact ⟨bt, rfl, unhide A, unhide HT, unhide HG⟩
    have hlt2 : (t : Int) < (n : Int) := by omega
    have i1 : IntKind.i64.wrap ((t : Int) + 1) = ((t + 1 : Nat) : Int) := by simp [IntKind.wrap, IntKind.bits, IntKind.signed]; omega
    have A1 := hide (heap_setAt (i := 0) (unhide A) (.int .i64 ((t + 1 : Nat) : Int)))
    have HG1 : Hid (w.grownBy (w1.setCell ⟨rb, 0, none⟩ (.int .i64 ((t + 1 : Nat) : Int))) (some rb)) := (unhide HG).trans (grown_setC w1 rb 0 _)
    have h8 : (t + 1) % 8 < 8 := Nat.mod_lt _ (by decide)
    have HCV := hide (clr_pow hbt h8)
    have HT1 := hide (turned_step (unhide HT) h1)
    have hmeas : intOf ((w1.cell? ⟨rb, 0, none⟩).getD undef) = (t : Int) := by rw [c0]; rfl
    simp only [List.setIfInBounds_toArray, List.set_cons_zero] at A1
    have hcb := HT1.out.1
    generalize clrB bt ((t + 1) % 8) = b2 at *
    generalize hz : t + 1 = t1 at *
    clear A HT HG
    have HMS := hide hmeas
    clear hmeas
    go_wp2_with fail
    generalize w1.setCell ⟨rb, 0, none⟩ (.int .i64 (t1 : Int)) = W1 at *
    have c1 := (unhide A1).cell 1
    clear c0 f0 c1
    have A2 := hide ((unhide A1).drew)
    have q1 : W1.drew.cell? ⟨rb, 1, none⟩ = some (.int .u64 (bt : Int)) := (unhide A2).cell 1
    have q2 : W1.drew.frozen? ⟨rb, 1, none⟩ = false := (unhide A2).frozen 1
    have Q1 := hide (And.intro q1 q2)
    have A3 := hide (heap_setAt (i := 1) (unhide A2) (.int .u64 (b2 : Int)))
    simp only [List.setIfInBounds_toArray, List.set_cons_zero, List.set_cons_succ] at A3
    have HG3 : Hid (w.grownBy (W1.drew.setCell ⟨rb, 1, none⟩ (.int .u64 (b2 : Int))) (some rb)) := (show w.grownBy W1.drew (some rb) from ⟨HG1.out.os, HG1.out.tape, HG1.out.output, HG1.out.size, HG1.out.block⟩).trans (grown_setC W1.drew rb 1 _)
    clear q1 q2 HG1 A1
    refine OrdC.wp_region_later (by kernel_rfl) ?_
    refine OrdC.later_take (i := 0) (d := 17) (v := ?_) (by kernel_rfl) (by kernel_rfl) (by kernel_rfl) (by kernel_rfl) (fun _ _ _ h => h) (fun oi hoi => ?_) ?_
    rotate_left
    · simp at hoi
      subst hoi
      refine ⟨by rfl, fun w' hw' => ?_⟩
      go_simp
      all_goals rfl
    try simp only [Act.put, List.setIfInBounds_toArray, List.set_cons_zero, List.set_cons_succ]
    refine OrdC.later_take (i := 1) (d := 18) (v := ?_) (by kernel_rfl) (by kernel_rfl) (by kernel_rfl) (by kernel_rfl) (fun _ _ _ h => h) (fun oi hoi => ?_) ?_
    rotate_left
    · simp at hoi
      subst hoi
      refine ⟨by rfl, fun w' hw' => ?_⟩
      go_simp
      all_goals rfl
    try simp only [Act.put, List.setIfInBounds_toArray, List.set_cons_zero, List.set_cons_succ]
    refine OrdC.later_take (i := 2) (d := 19) (v := ?_) (by kernel_rfl) (by kernel_rfl) (by kernel_rfl) (by kernel_rfl) (fun _ _ _ h => h) (fun oi hoi => ?_) ?_
    rotate_left
    · simp at hoi
      subst hoi
      refine ⟨by rfl, fun w' hw' => ?_⟩
      go_simp
      all_goals rfl
    try simp only [Act.put, List.setIfInBounds_toArray, List.set_cons_zero, List.set_cons_succ]
    refine OrdC.later_take (i := 3) (d := 20) (v := ?_) (by kernel_rfl) (by kernel_rfl) (by kernel_rfl) (by kernel_rfl) (fun _ _ _ h => h) (fun oi hoi => ?_) ?_
    rotate_left
    · simp at hoi
      subst hoi
      refine ⟨by rfl, fun w' hw' => ?_⟩
      have hx := Blk.below (unhide A2) hw'
      have x1 := hx.cell 1
      simp only [List.getElem?_toArray, List.getElem?_cons_succ, List.getElem?_cons_zero] at x1
      go_simp
      all_goals rfl
    try simp only [Act.put, List.setIfInBounds_toArray, List.set_cons_zero, List.set_cons_succ]
    refine OrdC.later_take (i := 4) (d := 21) (v := ?_) (by kernel_rfl) (by kernel_rfl) (by kernel_rfl) (by kernel_rfl) (fun _ _ _ h => h) (fun oi hoi => ?_) ?_
    rotate_left
    · simp at hoi
      subst hoi
      refine ⟨by rfl, fun w' hw' => ?_⟩
      go_simp
      all_goals rfl
    try simp only [Act.put, List.setIfInBounds_toArray, List.set_cons_zero, List.set_cons_succ]
    refine OrdC.later_take (i := 5) (d := 22) (v := ?_) (by kernel_rfl) (by kernel_rfl) (by kernel_rfl) (by kernel_rfl) (fun _ _ _ h => h) (fun oi hoi => ?_) ?_
    rotate_left
    · simp at hoi
      subst hoi
      refine ⟨by rfl, fun w' hw' => ?_⟩
      go_simp
      all_goals rfl
    try simp only [Act.put, List.setIfInBounds_toArray, List.set_cons_zero, List.set_cons_succ]
    refine OrdC.later_take (i := 6) (d := 23) (v := ?_) (by kernel_rfl) (by kernel_rfl) (by kernel_rfl) (by kernel_rfl) (fun _ _ _ h => h) (fun oi hoi => ?_) ?_
    rotate_left
    · simp at hoi
      subst hoi
      refine ⟨by rfl, fun w' hw' => ?_⟩
      go_simp
      all_goals rfl
    try simp only [Act.put, List.setIfInBounds_toArray, List.set_cons_zero, List.set_cons_succ]
    refine OrdC.later_take (i := 7) (d := 24) (v := ?_) (by kernel_rfl) (by kernel_rfl) (by kernel_rfl) (by kernel_rfl) (fun _ _ _ h => h) (fun oi hoi => ?_) ?_
    rotate_left
    · simp at hoi
      subst hoi
      refine ⟨by rfl, fun w' hw' => ?_⟩
      have hx := Blk.below (unhide A2) hw'
      have x0 := hx.cell 0
      simp only [List.getElem?_toArray, List.getElem?_cons_zero] at x0
      go_simp
      all_goals rfl
    try simp only [Act.put, List.setIfInBounds_toArray, List.set_cons_zero, List.set_cons_succ]
    refine OrdC.later_one (i := 8) (by kernel_rfl) (fun oi K hoi hK => ?_)
    simp at hoi
    subst hoi
    refine ⟨by rfl, ?_⟩
    go_simp
    refine (bitOf_any t1 _ (by omega)).mono ?_
    rintro e wz ⟨rfl, rfl⟩
    go_simp
    refine hK.out _ _ (Below.refl _ _) ?_
    clear hK
    try simp only [Act.put, List.setIfInBounds_toArray, List.set_cons_zero, List.set_cons_succ]
    refine OrdC.later_take (i := 9) (d := 26) (v := ?_) (by kernel_rfl) (by kernel_rfl) (by kernel_rfl) (by kernel_rfl) (fun _ _ _ h => h) (fun oi hoi => ?_) ?_
    rotate_left
    · simp at hoi
      subst hoi
      refine ⟨by rfl, fun w' hw' => ?_⟩
      have hcv := HCV.out
      go_simp
      all_goals rfl
    try simp only [Act.put, List.setIfInBounds_toArray, List.set_cons_zero, List.set_cons_succ]
    refine OrdC.later_take (i := 10) (d := 27) (v := ?_) (by kernel_rfl) (by kernel_rfl) (by kernel_rfl) (by kernel_rfl) (fun _ _ _ h => h) (fun oi hoi => ?_) ?_
    rotate_left
    · simp at hoi
      subst hoi
      refine ⟨by rfl, fun w' hw' => ?_⟩
      go_simp
      all_goals rfl
    try simp only [Act.put, List.setIfInBounds_toArray, List.set_cons_zero, List.set_cons_succ]
    refine OrdC.later_take (i := 11) (d := 28) (v := ?_) (by kernel_rfl) (by kernel_rfl) (by kernel_rfl) (by kernel_rfl) (fun _ _ _ h => h) (fun oi hoi => ?_) ?_
    rotate_left
    · simp at hoi
      subst hoi
      refine ⟨by rfl, fun w' hw' => ?_⟩
      go_simp
      all_goals rfl
    try simp only [Act.put, List.setIfInBounds_toArray, List.set_cons_zero, List.set_cons_succ]
    refine OrdC.ord_last (i := 12) (by kernel_rfl) (by kernel_rfl) (by kernel_rfl) (fun oi K hoi hK => ?_)
    simp at hoi
    subst hoi
    refine ⟨by rfl, ?_⟩
    have q1 := Q1.out.1
    have q2 := Q1.out.2
    have hcv := HCV.out
    go_simp
    refine hK.out _ _ ?_
    clear hK q1 q2 hcv
    change Exit.inBlock _ _ _ _ (W1.drew.setCell ⟨rb, 1, none⟩ (.int .u64 (b2 : Int)))
    generalize W1.drew.setCell ⟨rb, 1, none⟩ (.int .u64 (b2 : Int)) = V at *
    go_wp2_with fail
    go_roundw
    case rel => exact ⟨t1, b2, by omega, by omega, A3, HT1, HG3⟩
    case measure =>
      rw [HMS.out, show V.cell? ⟨rb, 0, none⟩ = some (.int .i64 (t1 : Int)) from (unhide A3).cell 0]
      simp [intOf]
      omega

/-- Bits behind a number that was taken. -/
def Took (top b n t b' : Nat) : Prop := b' < 256 ∧ ∀ m, 1 ≤ m → m ≤ t → t < m + 8 → b'.testBit (m % 8) = (decide (m = n) || (decide (m ≤ top) && b.testBit (m % 8)))
theorem took_set {top b n bt : Nat} (h : Turned top b (max top n) bt) (hn : top < n + 8) : Took top b n (max top n) (setB bt (n % 8)) := by
  have h8 : n % 8 < 8 := Nat.mod_lt _ (by decide)
  refine ⟨(or_val h.1 h8).2, fun m h1 h2 h3 => ?_⟩
  have hm8 : m % 8 < 8 := Nat.mod_lt _ (by decide)
  rw [test_set h.1 h8 hm8, h.2 m h1 h2 h3]
  by_cases e : m = n
  · subst e
    simp
  · have hne : (n % 8 == m % 8) = false := by simp; omega
    rw [hne, decide_eq_false e]
    simp

/-- Whether a ring takes a number. -/
def tkB (top b n : Nat) : Bool := !(ringHas top b n) && decide (top < n + 8)
/-- A ring behind a number. -/
def TakenAt (rb top b n : Nat) (tk : Bool) (w w' : World) : Prop := ∃ t' b' : Nat, Blk w' rb 66 (ringC t' b') ∧ (tk = false → t' = top ∧ b' = b) ∧ (tk = true → t' = max top n ∧ Took top b n t' b') ∧ w.grownBy w' (some rb)

set_option maxRecDepth 100000 in
set_option maxHeartbeats 4000000 in
theorem take_any (rb top b n : Nat) (w : World) (hR : Blk w rb 66 (ringC top b)) (hb : b < 256) (ht : top ≤ 2000) (hn : n ≤ 2000) :
    Calls Try.prog 47 #[.pointer (some ⟨rb, 0, none⟩), .int .i64 (n : Int)] w fun e w' => e = .returned (.bool (tkB top b n)) ∧ TakenAt rb top b n (tkB top b n) w w' := by
  have A := hide hR
  clear hR
  obtain ⟨tk, htk⟩ : ∃ tk, tkB top b n = tk := ⟨_, rfl⟩
  rw [htk]
  unfold tkB at htk
  have HTK := hide htk
  clear htk
  go_enter Try.func47, Try.ntmps47
  go_wp2_with fail
  refine (has_any rb top b n _ (unhide A) hb ht hn).mono ?_
  cases hh : ringHas top b n with
  | true =>
    rintro e w1 ⟨rfl, hb1⟩
    replace A := hide ((unhide A).below hb1)
    have HG1 : Hid (w.grownBy w1 (some rb)) := ⟨hb1.os, hb1.tape, hb1.output, hb1.size, fun k hk _ => hb1.block k hk⟩
    obtain rfl : tk = false := by rw [← HTK.out, hh]; rfl
    clear hh hb1
    go_wp2_with fail
    go_ret
    exact ⟨rfl, top, b, unhide A, fun _ => ⟨rfl, rfl⟩, fun q => (by cases q), unhide HG1⟩
  | false =>
    rintro e w1 ⟨rfl, hb1⟩
    replace A := hide ((unhide A).below hb1)
    have HG1 : Hid (w.grownBy w1 (some rb)) := ⟨hb1.os, hb1.tape, hb1.output, hb1.size, fun k hk _ => hb1.block k hk⟩
    have c0 := (unhide A).cell 0
    simp only [List.getElem?_toArray, List.getElem?_cons_zero] at c0
    rw [hh] at HTK
    clear hh hb1
    go_wp2_with fail
    refine (isTooFar_any (n : Int) (top : Int) _ (by omega) (by omega)).mono ?_
    by_cases h3 : top < n + 8
    rotate_left
    · rw [show decide (8 ≤ (top : Int) - (n : Int)) = true by simp; omega]
      rintro e wz ⟨rfl, rfl⟩
      obtain rfl : tk = false := by rw [← HTK.out, decide_eq_false h3]; rfl
      clear h3
      go_wp2_with fail
      go_ret
      exact ⟨rfl, top, b, unhide A, fun _ => ⟨rfl, rfl⟩, fun q => (by cases q), unhide HG1⟩
    rw [show decide (8 ≤ (top : Int) - (n : Int)) = false by simp; omega]
    rintro e wz ⟨rfl, rfl⟩
    obtain rfl : tk = true := by rw [← HTK.out, decide_eq_true h3]; rfl
    go_wp2_with fail
    refine (turnTo_any rb top b n _ (unhide A) hb hn).mono ?_
    rintro e w2 ⟨bt, rfl, hA2, hT2, hg2⟩
    have HT := hide (took_set hT2 h3)
    have hbt := hT2.1
    have h8 : n % 8 < 8 := Nat.mod_lt _ (by decide)
    have HCV := hide (or_pow hbt h8)
    have hmx : max top n ≤ 2000 := by omega
    have HG2 := hide ((unhide HG1).trans hg2)
    have A2 : Hid (Blk w2.drew rb 66 (ringC (max top n) bt)) := hA2
    have q1 : w2.drew.cell? ⟨rb, 1, none⟩ = some (.int .u64 (bt : Int)) := (unhide A2).cell 1
    have q2 : w2.drew.frozen? ⟨rb, 1, none⟩ = false := (unhide A2).frozen 1
    have Q1 := hide (And.intro q1 q2)
    generalize setB bt (n % 8) = b2 at *
    have A3 := hide (heap_setAt (i := 1) (unhide A2) (.int .u64 (b2 : Int)))
    simp only [List.setIfInBounds_toArray, List.set_cons_zero, List.set_cons_succ] at A3
    have HG3 : Hid (w.grownBy (w2.drew.setCell ⟨rb, 1, none⟩ (.int .u64 (b2 : Int))) (some rb)) := (show w.grownBy w2.drew (some rb) from ⟨HG2.out.os, HG2.out.tape, HG2.out.output, HG2.out.size, HG2.out.block⟩).trans (grown_setC w2.drew rb 1 _)
    obtain ⟨t2, ht2⟩ : ∃ t, t = max top n := ⟨_, rfl⟩
    rw [← ht2] at A2 A3 HT hmx
    have HME := hide ht2
    clear ht2
    clear q1 q2 HG1 HG2 A hA2 hT2 hg2 c0 h3
    go_wp2_with fail
    refine OrdC.wp_region_later (by kernel_rfl) ?_
    refine OrdC.later_take (i := 0) (d := 19) (v := ?_) (by kernel_rfl) (by kernel_rfl) (by kernel_rfl) (by kernel_rfl) (fun _ _ _ h => h) (fun oi hoi => ?_) ?_
    rotate_left
    · simp at hoi
      subst hoi
      refine ⟨by rfl, fun w' hw' => ?_⟩
      go_simp
      all_goals rfl
    try simp only [Act.put, List.setIfInBounds_toArray, List.set_cons_zero, List.set_cons_succ]
    refine OrdC.later_take (i := 1) (d := 20) (v := ?_) (by kernel_rfl) (by kernel_rfl) (by kernel_rfl) (by kernel_rfl) (fun _ _ _ h => h) (fun oi hoi => ?_) ?_
    rotate_left
    · simp at hoi
      subst hoi
      refine ⟨by rfl, fun w' hw' => ?_⟩
      go_simp
      all_goals rfl
    try simp only [Act.put, List.setIfInBounds_toArray, List.set_cons_zero, List.set_cons_succ]
    refine OrdC.later_take (i := 2) (d := 21) (v := ?_) (by kernel_rfl) (by kernel_rfl) (by kernel_rfl) (by kernel_rfl) (fun _ _ _ h => h) (fun oi hoi => ?_) ?_
    rotate_left
    · simp at hoi
      subst hoi
      refine ⟨by rfl, fun w' hw' => ?_⟩
      go_simp
      all_goals rfl
    try simp only [Act.put, List.setIfInBounds_toArray, List.set_cons_zero, List.set_cons_succ]
    refine OrdC.later_take (i := 3) (d := 22) (v := ?_) (by kernel_rfl) (by kernel_rfl) (by kernel_rfl) (by kernel_rfl) (fun _ _ _ h => h) (fun oi hoi => ?_) ?_
    rotate_left
    · simp at hoi
      subst hoi
      refine ⟨by rfl, fun w' hw' => ?_⟩
      have hx := Blk.below (unhide A2) hw'
      have x1 := hx.cell 1
      simp only [List.getElem?_toArray, List.getElem?_cons_succ, List.getElem?_cons_zero] at x1
      go_simp
      all_goals rfl
    try simp only [Act.put, List.setIfInBounds_toArray, List.set_cons_zero, List.set_cons_succ]
    refine OrdC.later_take (i := 4) (d := 23) (v := ?_) (by kernel_rfl) (by kernel_rfl) (by kernel_rfl) (by kernel_rfl) (fun _ _ _ h => h) (fun oi hoi => ?_) ?_
    rotate_left
    · simp at hoi
      subst hoi
      refine ⟨by rfl, fun w' hw' => ?_⟩
      go_simp
      all_goals rfl
    try simp only [Act.put, List.setIfInBounds_toArray, List.set_cons_zero, List.set_cons_succ]
    refine OrdC.later_one (i := 5) (by kernel_rfl) (fun oi K hoi hK => ?_)
    simp at hoi
    subst hoi
    refine ⟨by rfl, ?_⟩
    go_simp
    refine (bitOf_any n _ (by omega)).mono ?_
    rintro e wz ⟨rfl, rfl⟩
    go_simp
    refine hK.out _ _ (Below.refl _ _) ?_
    clear hK
    try simp only [Act.put, List.setIfInBounds_toArray, List.set_cons_zero, List.set_cons_succ]
    refine OrdC.later_take (i := 6) (d := 25) (v := ?_) (by kernel_rfl) (by kernel_rfl) (by kernel_rfl) (by kernel_rfl) (fun _ _ _ h => h) (fun oi hoi => ?_) ?_
    rotate_left
    · simp at hoi
      subst hoi
      refine ⟨by rfl, fun w' hw' => ?_⟩
      have hcv := HCV.out
      go_simp
      all_goals rfl
    try simp only [Act.put, List.setIfInBounds_toArray, List.set_cons_zero, List.set_cons_succ]
    refine OrdC.later_take (i := 7) (d := 26) (v := ?_) (by kernel_rfl) (by kernel_rfl) (by kernel_rfl) (by kernel_rfl) (fun _ _ _ h => h) (fun oi hoi => ?_) ?_
    rotate_left
    · simp at hoi
      subst hoi
      refine ⟨by rfl, fun w' hw' => ?_⟩
      go_simp
      all_goals rfl
    try simp only [Act.put, List.setIfInBounds_toArray, List.set_cons_zero, List.set_cons_succ]
    refine OrdC.later_take (i := 8) (d := 27) (v := ?_) (by kernel_rfl) (by kernel_rfl) (by kernel_rfl) (by kernel_rfl) (fun _ _ _ h => h) (fun oi hoi => ?_) ?_
    rotate_left
    · simp at hoi
      subst hoi
      refine ⟨by rfl, fun w' hw' => ?_⟩
      go_simp
      all_goals rfl
    try simp only [Act.put, List.setIfInBounds_toArray, List.set_cons_zero, List.set_cons_succ]
    refine OrdC.ord_last (i := 9) (by kernel_rfl) (by kernel_rfl) (by kernel_rfl) (fun oi K hoi hK => ?_)
    simp at hoi
    subst hoi
    refine ⟨by rfl, ?_⟩
    have q1 := Q1.out.1
    have q2 := Q1.out.2
    have hcv := HCV.out
    go_simp
    refine hK.out _ _ ?_
    clear hK q1 q2 hcv
    change Exit.then _ _ _ _ (w2.drew.setCell ⟨rb, 1, none⟩ (.int .u64 (b2 : Int)))
    generalize w2.drew.setCell ⟨rb, 1, none⟩ (.int .u64 (b2 : Int)) = V at *
    go_wp2_with fail
    go_ret
    exact ⟨rfl, t2, b2, unhide A3, fun q => (by cases q), fun _ => ⟨HME.out, unhide HT⟩, unhide HG3⟩
#print axioms turnTo_any
#print axioms take_any
end Go.Proofs.Ytgdhlnfigcaepaa
/-
  The program's ring of bits: ringOf, falling.
-/
namespace Go.Proofs.Ytgdhlnfigcaepaa
open Go.RowKit

abbrev noRing : Array Value := #[.int .i64 0, .int .u64 0]
theorem info_ri : (Try.prog.info? 66).map (·.size) = some 2 := by kernel_rfl
theorem load_ri {w : World} {b : Nat} {cs : Array Value} (h : Blk w b 66 cs) (hc : cs.size = 2) : (loadVar 66 ⟨b, 0, none⟩).run Try.prog w = .ok (.agg cs) w :=
  run_loadVar_row w b _ _ cs (0, 0) _ h Try.underlying66 rfl (by rw [hc]; exact info_ri)
theorem one_ri (a b : Nat) : (ringC a b).all (·.oneCell') = true := by simp [Value.oneCell']
/-- Bits tell which of some numbers there are. -/
def Tell (t b : Nat) (xs : List Int) : Prop := b < 256 ∧ ∀ m : Nat, 1 ≤ m → m ≤ t → t < m + 8 → (b.testBit (m % 8) = true ↔ (m : Int) ∈ xs)
theorem tell_nil (t : Nat) : Tell t 0 [] := ⟨by decide, fun m _ _ _ => by simp⟩
theorem tell_snoc {t b y : Nat} {xs : List Int} (h : Tell t b xs) (hy : y ≤ t ∧ t < y + 8) : Tell t (setB b (y % 8)) (xs ++ [(y : Int)]) := by
  have h8 : y % 8 < 8 := Nat.mod_lt _ (by decide)
  refine ⟨(or_val h.1 h8).2, fun m h1 h2 h3 => ?_⟩
  have hm8 : m % 8 < 8 := Nat.mod_lt _ (by decide)
  rw [test_set h.1 h8 hm8, List.mem_append, List.mem_singleton, Bool.or_eq_true, h.2 m h1 h2 h3, beq_iff_eq]
  constructor
  · rintro (q | q)
    · exact .inl q
    · exact .inr (by omega)
  · rintro (q | q)
    · exact .inl q
    · exact .inr (by rw [show m = y by omega])

set_option maxRecDepth 100000 in
set_option maxHeartbeats 4000000 in
theorem ringOf_any (key : ByteArray) (t : Nat) (xs : List Int) (v : Value) (w : World) (hI : IRow w v xs) (ht : t ≤ 999) (hx : ∀ x ∈ xs, 1 ≤ x ∧ x ≤ (t : Int) ∧ (t : Int) - 8 < x) (hl : xs.length ≤ 8) :
    Calls Try.prog 46 #[.agg (winC key (t : Int) v)] w fun e w' => ∃ b, e = .returned (.agg (ringC t b)) ∧ Tell t b xs ∧ Below w.heap.size w w' := by
  have HI := hide hI
  have HX := hide hx
  obtain ⟨ao, cap, rfl, _, hcap, _⟩ := hI.form
  unfold maxLen at hcap
  clear hI hx
  have a1' := (((Blk.new w 35 (winC key (t : Int) (.slice ao xs.length cap))).alloc (.cells noRing 66)).alloc (.cells (ringC t 0) 66))
  have r1' := ((Blk.new (w.alloc (.cells (winC key (t : Int) (.slice ao xs.length cap)) 35)) 66 noRing).alloc (.cells (ringC t 0) 66))
  have x1' := Blk.new ((w.alloc (.cells (winC key (t : Int) (.slice ao xs.length cap)) 35)).alloc (.cells noRing 66)) 66 (ringC t 0)
  have HB := hide ((((Below.refl w.heap.size w).alloc (Nat.le_refl _) (.cells (winC key (t : Int) (.slice ao xs.length cap)) 35)).alloc (by simp) (.cells noRing 66)).alloc (by simp; omega) (.cells (ringC t 0) 66))
  simp only [World.size_alloc] at r1' x1'
  have A := hide a1'
  have R := hide r1'
  have X := hide x1'
  clear a1' r1' x1'
  go_enter Try.func46, Try.ntmps46
  go_wp2_with fail
  generalize ((w.alloc (.cells (winC key (t : Int) (.slice ao xs.length cap)) 35)).alloc (.cells noRing 66)).alloc (.cells (ringC t 0) 66) = W0 at *
  clear A
  go_loopw [12] (fun i wr => ∃ k b : Nat, k ≤ xs.length ∧ i = .int .i64 (k : Int) ∧ Hid (Blk wr (w.heap.size + 1 + 1) 66 (ringC t b)) ∧ Hid (Blk wr (w.heap.size + 1) 66 noRing) ∧ Hid (Tell t b (xs.take k)) ∧ Hid (Below w.heap.size w wr)) (fun i _ => xs.length - (intOf i).toNat)
  case atStart => exact ⟨0, 0, by omega, rfl, X, R, tell_nil t, HB⟩
  case round =>
    clear X R HB
    obtain ⟨k, b, hk, rfl, X, R, HT, HB⟩ := hrel
    generalize wr = w1 at *
    by_cases hlt : k < xs.length
    rotate_left
    · have hlt2 : decide ((k : Int) < (xs.length : Int)) = false := by simp; omega
      have hkk : k = xs.length := by omega
      rw [hkk, List.take_length] at HT
      have l1 := load_ri (unhide X) rfl
      have l2 := load_ri ((unhide R).set (ringC t b)) rfl
      go_wp2_with (first | refine wpList_load_whole rfl 66 _ rfl ⟨w.heap.size + 1 + 1, 0, none⟩ rfl _ l1 ?_ | refine wpList_store_whole rfl 66 (.tmp 2) (.tmp 23) rfl (w.heap.size + 1) (ringC t b) ?hx ?hy 66 noRing ?hb ?hi ?ho ?h1 ?h)
      any_goals (first | rfl | exact unhide R | exact info_ri | exact one_ri _ _)
      go_wp2_with fail
      refine bodyPost_ret (v := .agg (ringC t b)) (results_cell rfl rfl l2) rfl ?_
      exact ⟨b, rfl, unhide HT, below_blk HB.out (by omega) _⟩
    have hlt2 : (k : Int) < (xs.length : Int) := by omega
    have hk0 : (0 : Int) ≤ (k : Int) := by omega
    obtain ⟨a0, e9, ca⟩ := irow_at (unhide HI) HB.out hlt
    subst e9
    have i3 : IntKind.i64.wrap ((k : Int) + 1) = (k : Int) + 1 := by simp [IntKind.wrap, IntKind.bits, IntKind.signed]; omega
    obtain ⟨y, hy, hy1⟩ : ∃ y : Nat, xs.getD k 0 = (y : Int) ∧ y ≤ t ∧ t < y + 8 := by
      have q := HX.out (xs.getD k 0) (by rw [getD_at hlt]; exact List.getElem_mem _)
      exact ⟨(xs.getD k 0).toNat, by omega, by omega, by omega⟩
    have HTS : Hid (xs.take (k + 1) = xs.take k ++ [(y : Int)]) := by show _ = _; rw [List.take_succ_eq_append_getElem hlt, ← getD_at hlt, hy]
    rw [hy] at ca
    have hbb := HT.out.1
    have h8 : y % 8 < 8 := Nat.mod_lt _ (by decide)
    have HCV := hide (or_pow hbb h8)
    have HT1 := hide (tell_snoc (unhide HT) hy1)
    rw [← HTS.out] at HT1
    generalize setB b (y % 8) = b2 at *
    clear HT HTS hy
    go_wp2_with fail
    have A2 := hide ((unhide X).drew)
    have q1 : w1.drew.cell? ⟨w.heap.size + 1 + 1, 1, none⟩ = some (.int .u64 (b : Int)) := (unhide A2).cell 1
    have q2 : w1.drew.frozen? ⟨w.heap.size + 1 + 1, 1, none⟩ = false := (unhide A2).frozen 1
    have Q1 := hide (And.intro q1 q2)
    have X3 := hide (heap_setAt (i := 1) (unhide A2) (.int .u64 (b2 : Int)))
    simp only [List.setIfInBounds_toArray, List.set_cons_zero, List.set_cons_succ] at X3
    have R3 := hide (((unhide R).drew).otherC (b' := w.heap.size + 1 + 1) (i := 1) (by omega) (.int .u64 (b2 : Int)))
    have HB3 : Hid (Below w.heap.size w (w1.drew.setCell ⟨w.heap.size + 1 + 1, 1, none⟩ (.int .u64 (b2 : Int)))) := (HB.out.drew).setCell (p := ⟨w.heap.size + 1 + 1, 1, none⟩) (by show w.heap.size ≤ w.heap.size + 1 + 1; omega) _
    clear q1 q2 X R HB ca
    refine wp_region_later (by kernel_rfl) ?_
    refine later_take (i := 0) (d := 16) (v := ?_) (by kernel_rfl) (by kernel_rfl) (by kernel_rfl) (by kernel_rfl) (fun _ _ _ h => h) (fun oi hoi => ?_) ?_
    rotate_left
    · simp at hoi
      subst hoi
      refine ⟨by rfl, fun w' hw' => ?_⟩
      go_simp
      all_goals rfl
    try simp only [Act.put, List.setIfInBounds_toArray, List.set_cons_zero, List.set_cons_succ]
    refine later_take (i := 1) (d := 17) (v := ?_) (by kernel_rfl) (by kernel_rfl) (by kernel_rfl) (by kernel_rfl) (fun _ _ _ h => h) (fun oi hoi => ?_) ?_
    rotate_left
    · simp at hoi
      subst hoi
      refine ⟨by rfl, fun w' hw' => ?_⟩
      have hx := Blk.below (unhide A2) hw'
      have x1 := hx.cell 1
      simp only [List.getElem?_toArray, List.getElem?_cons_succ, List.getElem?_cons_zero] at x1
      go_simp
      all_goals rfl
    try simp only [Act.put, List.setIfInBounds_toArray, List.set_cons_zero, List.set_cons_succ]
    refine later_take (i := 2) (d := 18) (v := ?_) (by kernel_rfl) (by kernel_rfl) (by kernel_rfl) (by kernel_rfl) (fun _ _ _ h => h) (fun oi hoi => ?_) ?_
    rotate_left
    · simp at hoi
      subst hoi
      refine ⟨by rfl, fun w' hw' => ?_⟩
      go_simp
      all_goals rfl
    try simp only [Act.put, List.setIfInBounds_toArray, List.set_cons_zero, List.set_cons_succ]
    refine later_one (i := 3) (by kernel_rfl) (fun oi K hoi hK => ?_)
    simp at hoi
    subst hoi
    refine ⟨by rfl, ?_⟩
    go_simp
    refine (bitOf_any y _ (by omega)).mono ?_
    rintro e wz ⟨rfl, rfl⟩
    go_simp
    refine hK.out _ _ (Below.refl _ _) ?_
    clear hK
    try simp only [Act.put, List.setIfInBounds_toArray, List.set_cons_zero, List.set_cons_succ]
    refine later_take (i := 4) (d := 20) (v := ?_) (by kernel_rfl) (by kernel_rfl) (by kernel_rfl) (by kernel_rfl) (fun _ _ _ h => h) (fun oi hoi => ?_) ?_
    rotate_left
    · simp at hoi
      subst hoi
      refine ⟨by rfl, fun w' hw' => ?_⟩
      have hcv := HCV.out
      go_simp
      all_goals rfl
    try simp only [Act.put, List.setIfInBounds_toArray, List.set_cons_zero, List.set_cons_succ]
    refine later_take (i := 5) (d := 21) (v := ?_) (by kernel_rfl) (by kernel_rfl) (by kernel_rfl) (by kernel_rfl) (fun _ _ _ h => h) (fun oi hoi => ?_) ?_
    rotate_left
    · simp at hoi
      subst hoi
      refine ⟨by rfl, fun w' hw' => ?_⟩
      go_simp
      all_goals rfl
    try simp only [Act.put, List.setIfInBounds_toArray, List.set_cons_zero, List.set_cons_succ]
    refine ord_last (i := 6) (by kernel_rfl) (by kernel_rfl) (by kernel_rfl) (fun oi K hoi hK => ?_)
    simp at hoi
    subst hoi
    refine ⟨by rfl, ?_⟩
    have q1 := Q1.out.1
    have q2 := Q1.out.2
    have hcv := HCV.out
    go_simp
    refine hK.out _ _ ?_
    clear hK q1 q2 hcv
    change Exit.inBlock _ _ _ _ (w1.drew.setCell ⟨w.heap.size + 1 + 1, 1, none⟩ (.int .u64 (b2 : Int)))
    generalize w1.drew.setCell ⟨w.heap.size + 1 + 1, 1, none⟩ (.int .u64 (b2 : Int)) = V at *
    go_wp2_with fail
    go_roundw
    case rel => exact ⟨k + 1, b2, by omega, by simp, X3, R3, HT1, HB3⟩
    case measure => simp [intOf]; omega

set_option maxRecDepth 100000 in
set_option maxHeartbeats 4000000 in
theorem falling_any (rb top b : Nat) (w : World) (hR : Blk w rb 66 (ringC top b)) (hb : b < 256) (ht : top ≤ 999) :
    Calls Try.prog 49 #[.pointer (some ⟨rb, 0, none⟩)] w fun e w' => ∃ v, e = .returned v ∧ OwnI w.heap.size w' v (fallOf top b) ∧ Below w.heap.size w w' := by
  obtain ⟨i0, hi, hz0, hz1, hz2⟩ := info_parts info_int2
  have hIn := hide (And.intro hi (And.intro hz0 (And.intro hz1 hz2)))
  clear hi hz0 hz1 hz2
  have A := hide hR
  clear hR
  have c0 := (unhide A).cell 0
  simp only [List.getElem?_toArray, List.getElem?_cons_zero] at c0
  have O0 : Hid (OwnI w.heap.size w (.slice none 0 0) []) := ⟨rfl, .inl ⟨rfl, rfl⟩⟩
  go_enter Try.func49, Try.ntmps49
  go_wp2_with fail
  clear c0
  go_loopw [3, 4] (fun s i wr => ∃ k : Nat, k ≤ min 8 top ∧ i = .int .i64 ((top - k : Nat) : Int) ∧ (∃ so sn sc, s = .slice so sn sc) ∧ Hid (OwnI w.heap.size wr s (fallTo top b k)) ∧ Hid (Below w.heap.size w wr)) (fun _ i _ => (intOf i).toNat)
  case atStart => exact ⟨0, by omega, rfl, ⟨_, _, _, rfl⟩, O0, Below.refl _ _⟩
  case round =>
    clear O0
    obtain ⟨k, hk, rfl, ⟨so, sn, sc, rfl⟩, hO, HB⟩ := hrel
    generalize wr = w1 at *
    have A1 := hide ((unhide A).below HB.out)
    have c0 := (unhide A1).cell 0
    simp only [List.getElem?_toArray, List.getElem?_cons_zero] at c0
    have HPL : Hid (sn = (fallTo top b k).length ∧ sn ≤ 8) := by
      obtain ⟨zo, zc, e⟩ := row_form' (unhide hO)
      simp only [Value.slice.injEq] at e
      have := fallTo_len top b k
      exact ⟨e.2.1, by rw [e.2.1]; omega⟩
    obtain ⟨z, hz⟩ : ∃ z : Nat, z = top - k := ⟨_, rfl⟩
    rw [← hz]
    have HZ := hide hz
    by_cases h1 : 1 ≤ z
    rotate_left
    · have h2 : decide ((1 : Int) ≤ (z : Int)) = false := by simp; omega
      have h3 : decide (1 ≤ z) = false := by simp; omega
      have HE : Hid (fallOf top b = fallTo top b k) := by show _ = _; unfold fallOf; rw [show min 8 top = k by omega]
      clear hz
      go_wp2_with fail
      go_ret
      refine ⟨_, rfl, ?_, unhide HB⟩
      rw [HE.out]
      exact unhide hO
    have h2 : (1 : Int) ≤ (z : Int) := by omega
    have hz1 : z ≤ 999 := by omega
    clear hz
    go_wp2_with fail
    refine (isTooFar_any (z : Int) (top : Int) _ (by omega) (by omega)).mono ?_
    by_cases h3 : k < 8
    rotate_left
    · rw [show decide (8 ≤ (top : Int) - (z : Int)) = true by have := HZ.out; simp; omega]
      rintro e wz ⟨rfl, rfl⟩
      have HE : Hid (fallOf top b = fallTo top b k) := by show _ = _; unfold fallOf; rw [show min 8 top = k by omega]
      go_wp2_with fail
      go_ret
      refine ⟨_, rfl, ?_, unhide HB⟩
      rw [HE.out]
      exact unhide hO
    rw [show decide (8 ≤ (top : Int) - (z : Int)) = false by have := HZ.out; simp; omega]
    rintro e wz ⟨rfl, rfl⟩
    go_wp2_with fail
    refine (has_any rb top b z _ (unhide A1) hb (by omega) (by omega)).mono ?_
    have hrh : ringHas top b z = b.testBit (z % 8) := by unfold ringHas; rw [decide_eq_true (by have := HZ.out; omega), decide_eq_true (by have := HZ.out; omega)]; rfl
    rw [hrh]
    have HFS : Hid (fallTo top b (k + 1) = if b.testBit (z % 8) = true then fallTo top b k ++ [(z : Int)] else fallTo top b k) := by show _ = _; rw [HZ.out]; rfl
    have i1 : IntKind.i64.wrap ((z : Int) - 1) = ((top - (k + 1) : Nat) : Int) := by have := HZ.out; simp [IntKind.wrap, IntKind.bits, IntKind.signed]; omega
    have hm1 : top - (k + 1) < z := by have := HZ.out; omega
    clear hrh
    cases hT : b.testBit (z % 8) with
    | false =>
      rintro e w2 ⟨rfl, hb2⟩
      have HE : Hid (fallTo top b (k + 1) = fallTo top b k) := by show _ = _; rw [HFS.out, hT]; rfl
      have O2 := hide (OwnI.below (unhide hO) hb2)
      have HB2 := hide (HB.out.trans (hb2.mono HB.out.size))
      clear hT HFS hb2 hO HB
      go_wp2_with fail
      go_roundw
      case rel => exact ⟨k + 1, by have := HZ.out; omega, rfl, ⟨_, _, _, rfl⟩, by rw [HE.out]; exact O2, HB2⟩
      case measure => simp [intOf]; omega
    | true =>
      rintro e w2 ⟨rfl, hb2⟩
      have HE : Hid (fallTo top b (k + 1) = fallTo top b k ++ [(z : Int)]) := by show _ = _; rw [HFS.out, hT]; rfl
      have OQ : w2.ownsRow w.heap.size 3 1 (.slice so sn sc) (fallTo top b k).length ((fallTo top b k).map (Value.int .i64)) := OwnI.below (unhide hO) hb2
      have HB2 := hide (HB.out.trans (hb2.mono HB.out.size))
      rw [← HPL.out.1] at OQ
      have OP := hide OQ
      have hsz2 := HB2.out.size
      have hpn := HPL.out.2
      clear hT HFS hb2 hO HB OQ
      go_wp2_with (at_builtin; refine wpList_append_own _ rfl _ _ 30 rfl w.heap.size 3 i0 (.int .i64 0) 1 8 Try.underlying30 (unhide hIn).1 (unhide hIn).2.1 (unhide hIn).2.2.1 (unhide hIn).2.2.2 rfl (by decide) _ _ _ rfl (World.ownsRow.alloc (unhide OP) _) ⟨w2.heap.size, 0, none⟩ 1 1 [.int .i64 (z : Int)] rfl rfl (one_newI _ _ _) (by intro u hu; simp at hu; subst hu; rfl) (by unfold maxLen; omega) (by omega) (by simp; omega) ?_)
      intro v' w3 hown' hgrow _
      have B3 : Hid (Below w.heap.size w w3) := ((unhide HB2).alloc hsz2 (.cells #[.int .i64 (z : Int)] 3)).grown hgrow (by simp; omega) (fun k hk => (World.ownsRow.lt (unhide OP) k hk).1)
      have O3 : Hid (OwnI w.heap.size w3 v' (fallTo top b (k + 1))) := by
        show OwnI _ _ _ _
        rw [HE.out]
        unfold OwnI
        rw [List.length_append, ← HPL.out.1, List.map_append]
        exact hown'
      obtain ⟨vo, vc, rfl⟩ := row_form' hown'
      clear hown' hgrow OP hsz2 hpn
      go_wp2_with fail
      go_roundw
      case rel => exact ⟨k + 1, by have := HZ.out; omega, rfl, ⟨_, _, _, rfl⟩, O3, B3⟩
      case measure => simp [intOf]; omega
#print axioms ringOf_any
#print axioms falling_any
end Go.Proofs.Ytgdhlnfigcaepaa
/-
  The program's WinTake.
-/
namespace Go.Proofs.Ytgdhlnfigcaepaa
open Go.RowKit

theorem ring_late {x : Win} {t b n : Nat} (hx : winOk x = true) (ht : x.top = (t : Int)) (hT : Tell t b x.seen) (hn : 1 ≤ n) : tkB t b n = !(lateB x (n : Int)) := by
  obtain ⟨_, _, h3, h4⟩ := win_facts hx
  have hb := falls_in h4 h3.1
  unfold tkB ringHas lateB
  rw [ht]
  by_cases h1 : t < n + 8
  · rw [decide_eq_true h1, decide_eq_false (show ¬ ((n : Int) ≤ (t : Int) - 8) by omega)]
    by_cases h2 : n ≤ t
    · rw [decide_eq_true h2]
      have := hT.2 n hn h2 h1
      by_cases q : (n : Int) ∈ x.seen
      · rw [this.2 q, decide_eq_true q]; rfl
      · have e : b.testBit (n % 8) = false := by
          cases z : b.testBit (n % 8) with
          | false => rfl
          | true => exact absurd (this.1 z) q
        rw [e, decide_eq_false q]; rfl
    · rw [decide_eq_false h2]
      have q : ¬ (n : Int) ∈ x.seen := fun q => by have := hb _ q; omega
      rw [decide_eq_false q]; rfl
  · rw [decide_eq_false h1, decide_eq_true (show (n : Int) ≤ (t : Int) - 8 by omega)]
    simp
theorem ring_stays {x : Win} {t b : Nat} (hx : winOk x = true) (ht : x.top = (t : Int)) (hT : Tell t b x.seen) : fallOf t b = x.seen := by
  obtain ⟨_, _, h3, h4⟩ := win_facts hx
  have hb := falls_in h4 h3.1
  rw [ht] at hb
  exact fallOf_eq (falls_sorted h4) hb hT.2
theorem ring_took {x : Win} {t b n t' b' : Nat} (hx : winOk x = true) (ht : x.top = (t : Int)) (hT : Tell t b x.seen) (hn : 1 ≤ n ∧ n ≤ 999) (hl : lateB x (n : Int) = false) (ht' : t' = max t n) (hk : Took t b n t' b') :
    (tookW x (n : Int)).top = (t' : Int) ∧ fallOf t' b' = (tookW x (n : Int)).seen := by
  obtain ⟨_, _, h3, h4⟩ := win_facts hx
  have hb := falls_in h4 h3.1
  obtain ⟨f1, f2⟩ := took_facts (n := (n : Int)) hx (by omega) hl
  obtain ⟨_, _, k3, k4⟩ := win_facts f1
  have kb := falls_in k4 k3.1
  have e : (tookW x (n : Int)).top = (t' : Int) := by unfold tookW; simp only; rw [ht, ht']; omega
  refine ⟨e, ?_⟩
  rw [e] at kb
  refine fallOf_eq (falls_sorted k4) kb fun m m1 m2 m3 => ?_
  rw [hk.2 m m1 m2 m3, f2, ht]
  simp only [Bool.or_eq_true, Bool.and_eq_true, decide_eq_true_eq]
  constructor
  · rintro (q | ⟨q1, q2⟩)
    · exact .inl (by omega)
    · exact .inr ⟨(hT.2 m m1 q1 (by omega)).1 q2, by omega⟩
  · rintro (q | ⟨q1, q2⟩)
    · exact .inl (by omega)
    · have := hb _ q1
      exact .inr ⟨by omega, (hT.2 m m1 (by omega) (by omega)).2 q1⟩
/-- What a ring behind a number tells. -/
theorem ring_takes {x : Win} {t b n : Nat} {rb : Nat} {w w' : World} (hx : winOk x = true) (ht : x.top = (t : Int)) (hT : Tell t b x.seen) (hn : 1 ≤ n ∧ n ≤ 999) (h : TakenAt rb t b n (tkB t b n) w w') :
    ∃ t' b' : Nat, Blk w' rb 66 (ringC t' b') ∧ (takeW x (n : Int)).1.top = (t' : Int) ∧ fallOf t' b' = (takeW x (n : Int)).1.seen ∧ tkB t b n = (takeW x (n : Int)).2 ∧ t' ≤ 999 ∧ b' < 256 ∧ w.grownBy w' (some rb) := by
  have e := ring_late hx ht hT hn.1
  obtain ⟨t', b', h1, h2, h3, h4⟩ := h
  obtain ⟨_, _, k3, k4⟩ := win_facts hx
  cases q : lateB x (n : Int) with
  | true =>
    rw [q] at e
    obtain ⟨rfl, rfl⟩ := h2 e
    refine ⟨_, _, h1, ?_, ?_, ?_, by omega, hT.1, h4⟩
    · unfold takeW; rw [q]; exact ht
    · unfold takeW; rw [q]; exact ring_stays hx ht hT
    · unfold takeW; rw [q]; exact e
  | false =>
    rw [q] at e
    obtain ⟨e1, e2⟩ := h3 e
    obtain ⟨r1, r2⟩ := ring_took hx ht hT hn q e1 e2
    refine ⟨t', b', h1, ?_, ?_, ?_, by omega, e2.1, h4⟩
    · unfold takeW; rw [q]; exact r1
    · unfold takeW; rw [q]; exact r2
    · unfold takeW; rw [q]; exact e
theorem take_keyI (x : Win) (n : Int) : (takeW x n).1.key = x.key := by unfold takeW tookW; split <;> rfl

set_option maxRecDepth 100000 in
set_option maxHeartbeats 4000000 in
theorem iWinTake_any (x : Win) (v : Value) (n : Int) (w : World) (hI : IRow w v x.seen) (hm : x.key.size ≤ maxLen) (hl : x.seen.length ≤ 2000000) :
    Calls Try.prog 24 #[.agg (x.cells v), .int .i64 n] w fun e w' => ∃ v', e = .returned (.tuple #[.agg ((winTake x n).1.cells v'), .bool (winTake x n).2]) ∧ OwnI w.heap.size w' v' (winTake x n).1.seen ∧ Below w.heap.size w w' := by
  have HT : Hid (winTake x n = if winOk x = true ∧ inB 1 999 n = true then takeW x n else (Win.none, false)) := rfl
  have HO := hide (iWinOk_any x v)
  have HRT : Hid (∀ (t b k rb : Nat) (u u' : World), winOk x = true → x.top = (t : Int) → Tell t b x.seen → 1 ≤ k ∧ k ≤ 999 → TakenAt rb t b k (tkB t b k) u u' → ∃ t' b' : Nat, Blk u' rb 66 (ringC t' b') ∧ (takeW x (k : Int)).1.top = (t' : Int) ∧ fallOf t' b' = (takeW x (k : Int)).1.seen ∧ tkB t b k = (takeW x (k : Int)).2 ∧ t' ≤ 999 ∧ b' < 256 ∧ u.grownBy u' (some rb)) := fun t b k rb u u' a1 a2 a3 a4 a5 => ring_takes a1 a2 a3 a4 a5
  have HWF : Hid (winOk x = true → (1 ≤ x.top ∧ x.top ≤ 999) ∧ x.seen.length ≤ 8 ∧ (∀ y ∈ x.seen, 1 ≤ y ∧ y ≤ x.top ∧ x.top - 8 < y) ∧ x.key.size ≤ 300) := fun q => ⟨(win_facts q).2.2.1, falls_len (win_facts q).2.2.2 (win_facts q).2.2.1.1, falls_in (win_facts q).2.2.2 (win_facts q).2.2.1.1, (ok_facts (win_facts q).1).1⟩
  have HTK : Hid ((takeW x n).1.key = x.key) := take_keyI x n
  have HI := hide hI
  obtain ⟨key, top, xs⟩ := x
  simp only at hI hl hm HWF HI HTK ⊢
  have M := hide hm
  have HLN := hide hl
  obtain ⟨ao, cap, rfl, _, _, _⟩ := hI.form
  clear hI hm hl
  have a1' := ((Blk.new w 35 (winC key top (.slice ao xs.length cap))).alloc (.cells noWin 35))
  have r1' := Blk.new (w.alloc (.cells (winC key top (.slice ao xs.length cap)) 35)) 35 noWin
  have HB := hide (((Below.refl w.heap.size w).alloc (Nat.le_refl _) (.cells (winC key top (.slice ao xs.length cap)) 35)).alloc (by simp) (.cells noWin 35))
  simp only [World.size_alloc] at r1'
  have A := hide a1'
  have R := hide r1'
  clear a1' r1'
  have L0 := hide (load_wi (unhide A) rfl)
  go_enter Try.func24, Try.ntmps24
  go_wp2_with (refine wpList_load_whole rfl 35 _ rfl ⟨w.heap.size, 0, none⟩ rfl _ (by exact unhide L0) ?_)
  generalize (w.alloc (.cells (winC key top (.slice ao xs.length cap)) 35)).alloc (.cells noWin 35) = W0 at *
  refine ((unhide HO) _ ((unhide HI).below HB.out) M.out HLN.out).mono ?_
  obtain ⟨b0, hb0⟩ : ∃ b, winOk ⟨key, top, xs⟩ = b := ⟨_, rfl⟩
  rw [hb0]
  have H0 := hide hb0
  clear hb0 L0
  cases b0 with
  | false =>
    rintro e w1 ⟨rfl, hb⟩
    replace A := hide ((unhide A).below hb)
    replace R := hide ((unhide R).below hb)
    replace HB := hide (HB.out.trans (hb.mono HB.out.size))
    clear hb
    have HF : Hid (winTake ⟨key, top, xs⟩ n = (Win.none, false)) := by show _ = _; rw [HT.out, if_neg (by rw [H0.out]; simp)]
    have L1 := hide (load_wi ((unhide R).set noWin) rfl)
    go_wp2_with (refine wpList_store_whole rfl 35 (.tmp 4) (.tmp 16) rfl (w.heap.size + 1) noWin ?hx1 ?hy1 35 noWin ?hb1 ?hi1 ?ho1 ?h11 ?h1)
    any_goals (first | rfl | exact unhide R | exact info_wi | exact one_wi _ _ _ _ _)
    go_wp2_with fail
    refine bodyPost_ret (v := .tuple #[.agg noWin, .bool false]) (results_cs rfl rfl rfl (unhide L1)) rfl ?_
    rw [HF.out]
    exact ⟨_, rfl, ⟨rfl, .inl ⟨rfl, rfl⟩⟩, below_blk HB.out (by omega) _⟩
  | true =>
    rintro e w1 ⟨rfl, hb⟩
    replace A := hide ((unhide A).below hb)
    replace R := hide ((unhide R).below hb)
    replace HB := hide (HB.out.trans (hb.mono HB.out.size))
    clear hb
    go_wp2_with fail
    refine (isNumber_any n _).mono ?_
    obtain ⟨b1, hb1⟩ : ∃ b, inB 1 999 n = b := ⟨_, rfl⟩
    rw [hb1]
    have H1 := hide hb1
    clear hb1
    cases b1 with
    | false =>
      rintro e wz ⟨rfl, rfl⟩
      have HF : Hid (winTake ⟨key, top, xs⟩ n = (Win.none, false)) := by show _ = _; rw [HT.out, if_neg (by rw [H1.out]; simp)]
      have L1 := hide (load_wi ((unhide R).set noWin) rfl)
      go_wp2_with (refine wpList_store_whole rfl 35 (.tmp 4) (.tmp 16) rfl (w.heap.size + 1) noWin ?hx2 ?hy2 35 noWin ?hb2 ?hi2 ?ho2 ?h12 ?h2)
      any_goals (first | rfl | exact unhide R | exact info_wi | exact one_wi _ _ _ _ _)
      go_wp2_with fail
      refine bodyPost_ret (v := .tuple #[.agg noWin, .bool false]) (results_cs rfl rfl rfl (unhide L1)) rfl ?_
      rw [HF.out]
      exact ⟨_, rfl, ⟨rfl, .inl ⟨rfl, rfl⟩⟩, below_blk HB.out (by omega) _⟩
    | true =>
      rintro e wz ⟨rfl, rfl⟩
      have hn : 1 ≤ n ∧ n ≤ 999 := by have := H1.out; unfold inB at this; simpa using this
      have HF : Hid (winTake ⟨key, top, xs⟩ n = takeW ⟨key, top, xs⟩ n) := by show _ = _; rw [HT.out, if_pos ⟨H0.out, H1.out⟩]
      obtain ⟨htb, hlen, hin, hk3⟩ := HWF.out H0.out
      obtain ⟨t, rfl⟩ : ∃ t : Nat, top = (t : Int) := ⟨top.toNat, by omega⟩
      obtain ⟨k, rfl⟩ : ∃ k : Nat, n = (k : Int) := ⟨n.toNat, by omega⟩
      have HIN := hide hin
      have ht9 : t ≤ 999 := by omega
      have hk9 : 1 ≤ k ∧ k ≤ 999 := by omega
      clear hin htb hn
      have L0 := hide (load_wi (unhide A) rfl)
      go_wp2_with (refine wpList_load_whole rfl 35 _ rfl ⟨w.heap.size, 0, none⟩ rfl _ (by exact unhide L0) ?_)
      refine (ringOf_any key t xs _ _ ((unhide HI).below HB.out) ht9 HIN.out hlen).mono ?_
      rintro e w2 ⟨b, rfl, hT, hb⟩
      have HTL := hide hT
      have hb256 := hT.1
      replace A := hide ((unhide A).below hb)
      replace R := hide ((unhide R).below hb)
      replace HB := hide (HB.out.trans (hb.mono HB.out.size))
      clear hb hT L0 HIN
      have X := hide (Blk.new w2 66 (ringC t b))
      have BA : Hid (Below w2.heap.size w2 (w2.alloc (.cells (ringC t b) 66))) := (Below.refl _ _).alloc (Nat.le_refl _) _
      have hxr : w.heap.size + 1 < w2.heap.size := (unhide R).lt
      replace A := hide ((unhide A).below BA.out)
      replace R := hide ((unhide R).below BA.out)
      replace HB := hide (HB.out.trans (BA.out.mono HB.out.size))
      clear BA
      go_wp2_with fail
      generalize w2.alloc (.cells (ringC t b) 66) = W2 at *
      generalize w2.heap.size = xb at *
      refine (take_any xb t b k _ (unhide X) hb256 (by omega) (by omega)).mono ?_
      rintro e w3 ⟨rfl, hTA⟩
      obtain ⟨t', b', hX3, e1, e2, e3, ht'9, hb', hg⟩ := HRT.out t b k xb _ _ H0.out rfl (unhide HTL) hk9 hTA
      rw [e3]
      replace X := hide hX3
      replace A := hide ((unhide A).kept hg (fun q => by cases q; omega))
      replace R := hide ((unhide R).kept hg (fun q => by cases q; omega))
      replace HB := hide (HB.out.grown hg HB.out.size (fun j hj => by cases hj; omega))
      have HE : Hid ((takeW ⟨key, (t : Int), xs⟩ (k : Int)).1.top = (t' : Int) ∧ fallOf t' b' = (takeW ⟨key, (t : Int), xs⟩ (k : Int)).1.seen) := ⟨e1, e2⟩
      have HFL : Hid ((fallOf t' b').length ≤ 8) := by show _ ≤ _; unfold fallOf; have := fallTo_len t' b' (min 8 t'); omega
      clear hX3 e1 e2 e3 hg hTA HTL HRT HWF HO HT
      generalize (takeW ⟨key, (t : Int), xs⟩ (k : Int)) = T at *
      obtain ⟨⟨tk, tt, ts⟩, tb⟩ := T
      simp only at HE HF HTK ⊢
      go_wp2_with fail
      replace X := hide ((unhide X).drew)
      replace A := hide ((unhide A).drew)
      replace R := hide ((unhide R).drew)
      replace HB : Hid (Below w.heap.size w w3.drew) := HB.out.drew
      have cA : w3.drew.cell? ⟨w.heap.size, 0, none⟩ = some (.string key) := (unhide A).cell 0
      have cB : w3.drew.cell? ⟨xb, 0, none⟩ = some (.int .i64 (t' : Int)) := (unhide X).cell 0
      have C4 := hide (And.intro cA cB)
      have hl1 : w.heap.size < w3.drew.heap.size := cell_lt cA
      have hl2 : xb < w3.drew.heap.size := cell_lt cB
      clear cA cB A
      refine wp_region_ord ((KeepC ([⟨w.heap.size, 0, none⟩, ⟨xb, 0, none⟩] : List Addr))) (by kernel_rfl) ?_
      refine ord_take (keepCPre _) (i := 0) (d := 21) (v := ?_) (by kernel_rfl) (by kernel_rfl) (by kernel_rfl) (by kernel_rfl) (fun _ _ _ h => h) (fun oi hoi => ?_) ?_
      rotate_left
      · simp at hoi
        subst hoi
        refine ⟨by rfl, fun w' hw' => ?_⟩
        go_simp
        all_goals rfl
      try simp only [Act.put, List.setIfInBounds_toArray, List.set_cons_zero, List.set_cons_succ]
      refine ord_take (keepCPre _) (i := 1) (d := 22) (v := ?_) (by kernel_rfl) (by kernel_rfl) (by kernel_rfl) (by kernel_rfl) (fun _ _ _ h => h) (fun oi hoi => ?_) ?_
      rotate_left
      · simp at hoi
        subst hoi
        refine ⟨by rfl, fun w' hw' => ?_⟩
        have xq := (hw' ⟨w.heap.size, 0, none⟩ (by simp)).trans C4.out.1
        go_simp
        all_goals rfl
      try simp only [Act.put, List.setIfInBounds_toArray, List.set_cons_zero, List.set_cons_succ]
      refine ord_take (keepCPre _) (i := 3) (d := 24) (v := ?_) (by kernel_rfl) (by kernel_rfl) (by kernel_rfl) (by kernel_rfl) (fun _ _ _ h => h) (fun oi hoi => ?_) ?_
      rotate_left
      · simp at hoi
        subst hoi
        refine ⟨by rfl, fun w' hw' => ?_⟩
        go_simp
        all_goals rfl
      try simp only [Act.put, List.setIfInBounds_toArray, List.set_cons_zero, List.set_cons_succ]
      refine ord_take (keepCPre _) (i := 4) (d := 25) (v := ?_) (by kernel_rfl) (by kernel_rfl) (by kernel_rfl) (by kernel_rfl) (fun _ _ _ h => h) (fun oi hoi => ?_) ?_
      rotate_left
      · simp at hoi
        subst hoi
        refine ⟨by rfl, fun w' hw' => ?_⟩
        have xq := (hw' ⟨xb, 0, none⟩ (by simp)).trans C4.out.2
        go_simp
        all_goals rfl
      try simp only [Act.put, List.setIfInBounds_toArray, List.set_cons_zero, List.set_cons_succ]
      refine ord_take (keepCPre _) (i := 7) (d := 28) (v := ?_) (by kernel_rfl) (by kernel_rfl) (by kernel_rfl) (by kernel_rfl) (fun _ _ _ h => h) (fun oi hoi => ?_) ?_
      rotate_left
      · simp at hoi
        subst hoi
        refine ⟨by rfl, fun w' hw' => ?_⟩
        go_simp
        all_goals rfl
      try simp only [Act.put, List.setIfInBounds_toArray, List.set_cons_zero, List.set_cons_succ]
      refine ord_one (i := 2) (by kernel_rfl) (fun oi K hoi hK => ?_)
      simp at hoi
      subst hoi
      refine ⟨by rfl, ?_⟩
      go_simp
      refine (clone_any key _ (by omega)).mono ?_
      rintro e w4 ⟨rfl, hb⟩
      go_simp
      have HL1 := hl1
      have HL2 := hl2
      refine hK.out _ _ (keepC_below hb (fun x hx => by simp only [List.mem_cons, List.not_mem_nil, or_false] at hx; rcases hx with rfl | rfl; exact HL1; exact HL2)) ?_
      clear hK HL1 HL2
      have hl3 : w.heap.size < w4.heap.size := Nat.lt_of_lt_of_le hl1 hb.size
      have hl4 : xb < w4.heap.size := Nat.lt_of_lt_of_le hl2 hb.size
      replace X := hide ((unhide X).below hb)
      replace R := hide ((unhide R).below hb)
      replace HB := hide (HB.out.trans (hb.mono HB.out.size))
      clear hb hl1 hl2
      try simp only [Act.put, List.setIfInBounds_toArray, List.set_cons_zero, List.set_cons_succ]
      refine ord_one (i := 5) (by kernel_rfl) (fun oi K hoi hK => ?_)
      simp at hoi
      subst hoi
      refine ⟨by rfl, ?_⟩
      go_simp
      refine (falling_any xb t' b' _ (unhide X) hb' ht'9).mono ?_
      rintro e w5 ⟨u, rfl, ho, hb⟩
      obtain ⟨uo, uc, rfl⟩ := row_form' ho
      have hle := HB.out.size
      have OS : Hid (OwnI w.heap.size w5 (.slice uo (fallOf t' b').length uc) (fallOf t' b')) := row_lowB ho hle
      go_simp
      have HL1 := hl3
      have HL2 := hl4
      refine hK.out _ _ (keepC_below hb (fun x hx => by simp only [List.mem_cons, List.not_mem_nil, or_false] at hx; rcases hx with rfl | rfl; exact HL1; exact HL2)) ?_
      clear hK HL1 HL2 ho
      have hl5 : w.heap.size < w5.heap.size := Nat.lt_of_lt_of_le hl3 hb.size
      have hl6 : xb < w5.heap.size := Nat.lt_of_lt_of_le hl4 hb.size
      replace R := hide ((unhide R).below hb)
      replace HB := hide (HB.out.trans (hb.mono hle))
      clear hb hl3 hl4 hle
      try simp only [Act.put, List.setIfInBounds_toArray, List.set_cons_zero, List.set_cons_succ]
      refine ord_take (keepCPre _) (i := 6) (d := 27) (v := ?_) (by kernel_rfl) (by kernel_rfl) (by kernel_rfl) (by kernel_rfl) (fun _ _ _ h => h) (fun oi hoi => ?_) ?_
      rotate_left
      · simp at hoi
        subst hoi
        refine ⟨by rfl, fun w' hw' => ?_⟩
        go_simp
        all_goals rfl
      try simp only [Act.put, List.setIfInBounds_toArray, List.set_cons_zero, List.set_cons_succ]
      refine ord_one (i := 8) (by kernel_rfl) (fun oi K hoi hK => ?_)
      simp at hoi
      subst hoi
      refine ⟨by rfl, ?_⟩
      refine wp_store_row 35 (.tmp 4) (.tmp 27) rfl (w.heap.size + 1) (winC key (t' : Int) (.slice uo (fallOf t' b').length uc)) rfl rfl 35 noWin (unhide R) info_wi rfl (one_wi _ _ _ _ _) ?_
      refine hK.out _ _ (keepC_row (fun x hx => by simp only [List.mem_cons, List.not_mem_nil, or_false] at hx; rcases hx with rfl | rfl; exact ⟨hl5, by show w.heap.size ≠ w.heap.size + 1; omega⟩; exact ⟨hl6, by show xb ≠ w.heap.size + 1; omega⟩) (grown_setRow _ _ _)) ?_
      clear hK
      try simp only [Act.put]
      refine ord_take (keepCPre _) (i := 9) (d := 5) (v := ?_) (by kernel_rfl) (by kernel_rfl) (by kernel_rfl) (by kernel_rfl) (fun _ _ _ h => h) (fun oi hoi => ?_) ?_
      rotate_left
      · simp at hoi
        subst hoi
        refine ⟨by rfl, fun w' hw' => ?_⟩
        go_simp
        all_goals rfl
      try simp only [Act.put, List.setIfInBounds_toArray, List.set_cons_zero, List.set_cons_succ]
      refine later_done (by kernel_rfl) ?_ _
      have l2 := load_wi ((unhide R).set (winC key (t' : Int) (.slice uo (fallOf t' b').length uc))) rfl
      go_wp2_with fail
      refine bodyPost_ret (v := .tuple #[.agg (winC key (t' : Int) (.slice uo (fallOf t' b').length uc)), .bool tb]) (results_cs rfl rfl rfl l2) rfl ?_
      rw [HF.out]
      simp only
      rw [HTK.out, HE.out.1, ← HE.out.2]
      exact ⟨_, rfl, row_blk (unhide OS) (unhide R) (by decide) _, below_blk HB.out (by omega) _⟩
#print axioms iWinTake_any
end Go.Proofs.Ytgdhlnfigcaepaa
/-
  The laws' own look whether a number is one of some.
-/
namespace Go.Proofs.Ytgdhlnfigcaepaa
open Go.RowKit

set_option maxHeartbeats 1000000 in
theorem keIn_any (v : Value) (xs : List Int) (n : Int) (w : World) (h : IRow w v xs) :
    Calls Try.prog 33 #[v, .int .i64 n] w fun e w' => e = .returned (.bool (decide (n ∈ xs))) ∧ w' = w := by
  obtain ⟨ao, cap, rfl, h1, h2, hc⟩ := h.form
  have hC := hide hc
  unfold maxLen at h2
  clear h hc
  go_enter Try.func33, Try.ntmps33
  go_wp2_with fail
  go_loop [5] (fun i => ∃ k : Nat, k ≤ xs.length ∧ i = .int .i64 (k : Int) ∧ Hid (∀ j, j < k → xs.getD j 0 ≠ n)) (fun i => xs.length - (intOf i).toNat)
  case atStart => exact ⟨0, by omega, rfl, fun j hj => by omega⟩
  case round =>
    obtain ⟨k, hk, rfl, hN⟩ := hrel
    by_cases hlt : k < xs.length
    · have hlt2 : (k : Int) < (xs.length : Int) := by omega
      obtain ⟨a, rfl, hck⟩ := hC.out k hlt
      have i3 : IntKind.i64.wrap ((k : Int) + 1) = (k : Int) + 1 := by simp [IntKind.wrap, IntKind.bits, IntKind.signed]; omega
      by_cases he : xs.getD k 0 = n
      · have hE : decide (n ∈ xs) = true := by rw [← he]; exact decide_eq_true (getI_mem hlt)
        rw [he] at hck
        have HE := hide hE
        clear hE he
        go_wp2_with fail
        go_ret
        exact ⟨ret_bool' HE.out.symm, rfl⟩
      · have hN1 : Hid (∀ j, j < k + 1 → xs.getD j 0 ≠ n) := by
          intro j hj
          by_cases hjk : j = k
          · subst hjk; exact he
          · exact hN j (by omega)
        generalize xs.getD k 0 = y at hck he
        have hn : (y == n) = false := by simpa using he
        go_wp2_with fail
        exact ⟨⟨k + 1, by omega, by simp, hN1⟩, by simp [intOf]; omega⟩
    · have hlt2 : decide ((k : Int) < (xs.length : Int)) = false := by simp; omega
      have hE : Hid (decide (n ∈ xs) = false) := by
        show decide _ = false
        apply decide_eq_false
        intro hm
        obtain ⟨j, hj, e⟩ := mem_getI hm
        exact hN j (by omega) e
      go_wp2_with fail
      go_ret
      exact ⟨ret_bool' hE.out.symm, rfl⟩
#print axioms keIn_any
end Go.Proofs.Ytgdhlnfigcaepaa
/-
  The laws' own last word: it returns true.
-/
namespace Go.Proofs.Ytgdhlnfigcaepaa
open Go.RowKit

set_option maxHeartbeats 400000 in
theorem keOk_any (w : World) : Calls Try.prog 28 #[] w fun e w' => e = .returned (.bool true) ∧ Below w.heap.size w w' := by
  have hk : Hid (Kw.ok ⟨#[65, 49, 59]⟩ = true) := by show Kw.ok _ = true; decide +kernel
  go_enter Try.func28, Try.ntmps28
  go_wp2_with fail
  refine (iSecOk_any ⟨#[65, 49, 59]⟩ _ (le_maxLen (by decide))).mono ?_
  rw [hk.out]
  rintro e w1 ⟨rfl, hb1⟩
  go_wp2_with fail
  go_ret
  exact ⟨rfl, hb1⟩

#print axioms keOk_any
end Go.Proofs.Ytgdhlnfigcaepaa
