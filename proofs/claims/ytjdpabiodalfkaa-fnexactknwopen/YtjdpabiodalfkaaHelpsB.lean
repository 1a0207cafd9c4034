/-
  The laws' own helpers over rows of boxes: how great one is, a copy of one, whether two are the same.
-/
import Derived.Test.YtjdpabiodalfkaaSmallM
import Derived.Test.YtjdpabiodalfkaaHelps
namespace Go.Proofs.Ytjdpabiodalfkaa
open Go.RowKit

def bv (b : Bx) : Value := .agg #[.string b.1, .string b.2]

set_option maxHeartbeats 400000 in
theorem szKnwBox_any (b : Bx) (left : Int) (w : World) (h1 : b.1.size ≤ maxLen) (h2 : b.2.size ≤ maxLen) (hl : 0 ≤ left) (hl2 : left ≤ 1048576) :
    Calls Try.prog 65 #[.agg #[.string b.1, .string b.2], .int .i64 left] w fun e w' => ∃ r : Int, e = .returned (.int .i64 r) ∧ r ≤ left ∧ (0 ≤ r → (b.1.size : Int) ≤ left ∧ (b.2.size : Int) ≤ left) ∧ Below w.heap.size w w' := by
  unfold maxLen at h1 h2
  have HBA : Hid (Below w.heap.size w (w.alloc (.cells #[.string b.1, .string b.2] 97))) := (Below.refl _ _).alloc (Nat.le_refl _) _
  by_cases hn : left - (b.1.size : Int) < 0
  · go_enter Try.func65, Try.ntmps65
    go_wp2_with fail
    go_ret
    exact ⟨-1, rfl, by omega, by omega, unhide HBA⟩
  have hn2 : decide (left - (b.1.size : Int) < 0) = false := by simpa using hn
  by_cases hm : left - (b.1.size : Int) - (b.2.size : Int) < 0
  · go_enter Try.func65, Try.ntmps65
    go_wp2_with fail
    go_ret
    exact ⟨-1, rfl, by omega, by omega, unhide HBA⟩
  have hm2 : decide (left - (b.1.size : Int) - (b.2.size : Int) < 0) = false := by simpa using hm
  go_enter Try.func65, Try.ntmps65
  go_wp2_with fail
  go_ret
  exact ⟨_, rfl, by omega, fun _ => by omega, unhide HBA⟩

set_option maxHeartbeats 1000000 in
theorem szKnwBoxS_any (v : Value) (bs : List Bx) (left : Int) (w : World) (h : BRow w v bs) (hx : ∀ b ∈ bs, b.1.size ≤ maxLen ∧ b.2.size ≤ maxLen) (hl : 0 ≤ left) (hl2 : left ≤ 1048576) :
    Calls Try.prog 39 #[v, .int .i64 left] w fun e w' => ∃ r : Int, e = .returned (.int .i64 r) ∧ r ≤ left ∧ (0 ≤ r → (bs.length : Int) ≤ left) ∧ Below w.heap.size w w' := by
  have hR := hide h
  have HX := hide hx
  obtain ⟨ao, cap, rfl, h1, h2, _⟩ := h
  unfold maxLen at h2
  clear hx
  by_cases hn : left - (bs.length : Int) < 0
  · go_enter Try.func39, Try.ntmps39
    go_wp2_with fail
    go_ret
    exact ⟨-1, rfl, by omega, by omega, Below.refl _ _⟩
  have hn2 : decide (left - (bs.length : Int) < 0) = false := by simpa using hn
  go_enter Try.func39, Try.ntmps39
  go_wp2_with fail
  go_loopw [1, 5] (fun l i wr => ∃ (k : Nat) (L : Int), k ≤ bs.length ∧ i = .int .i64 (k : Int) ∧ l = .int .i64 L ∧ 0 ≤ L ∧ L ≤ left ∧ Hid (Below w.heap.size w wr)) (fun _ i _ => bs.length - (intOf i).toNat)
  case atStart => exact ⟨0, left - bs.length, by omega, rfl, rfl, by omega, by omega, Below.refl _ _⟩
  case round =>
    obtain ⟨k, L, hk, rfl, rfl, hL0, hL1, hB⟩ := hrel
    have hle := hB.out.size
    by_cases hlt : k < bs.length
    · have hlt2 : (k : Int) < (bs.length : Int) := by omega
      obtain ⟨bo', c1, q1, _, _, q2⟩ := BRow.below (unhide hR) (unhide hB)
      simp only [Value.slice.injEq] at q1
      obtain ⟨rfl, z1, rfl⟩ := q1
      clear z1
      obtain ⟨a, rfl, hca, hcb⟩ := q2 k hlt
      rw [add_one] at hcb
      clear q2
      have M : Hid ((bs.getD k noBx).1.size ≤ maxLen ∧ (bs.getD k noBx).2.size ≤ maxLen) := HX.out _ (getB_mem hlt)
      have i3 : IntKind.i64.wrap ((k : Int) + 1) = (k : Int) + 1 := by simp [IntKind.wrap, IntKind.bits, IntKind.signed]; omega
      generalize bs.getD k noBx = y at hca hcb M
      go_wp2_with fail
      refine (szKnwBox_any y L _ M.out.1 M.out.2 hL0 (by omega)).mono ?_
      rintro e w1 ⟨r, rfl, hr1, _, hb1⟩
      have hB1 := hide ((unhide hB).trans (hb1.mono hle))
      clear hb1 hB hca hcb
      by_cases hneg : r < 0
      · go_wp2_with fail
        go_ret
        exact ⟨-1, rfl, by omega, by omega, unhide hB1⟩
      · have hneg2 : decide (r < 0) = false := by simpa using hneg
        go_wp2_with fail
        go_roundw
        case rel => exact ⟨k + 1, r, by omega, by simp, rfl, by omega, by omega, hB1⟩
        case measure => simp [intOf]; omega
    · have hlt2 : decide ((k : Int) < (bs.length : Int)) = false := by simp; omega
      go_wp2_with fail
      go_ret
      exact ⟨L, rfl, by omega, fun _ => by omega, unhide hB⟩

set_option maxRecDepth 100000 in
set_option maxHeartbeats 400000 in
theorem toKnwBox_any (b : Bx) (w : World) : Calls Try.prog 66 #[.agg #[.string b.1, .string b.2]] w fun e w' => e = .returned (.agg #[.string b.1, .string b.2]) ∧ Below w.heap.size w w' := by
  go_enter Try.func66, Try.ntmps66
  go_wp2_with fail
  refine bodyPost_ret (v := .agg #[.string b.1, .string b.2]) (by simp [results, Try.results66, go_sem]) rfl ⟨rfl, ?_⟩
  exact (((Below.refl w.heap.size w).alloc (Nat.le_refl _) _).alloc (by simp) _).alloc (by simp; omega) _

set_option maxHeartbeats 400000 in
theorem eqKnwBox_any (b c : Bx) (w : World) : Calls Try.prog 67 #[.agg #[.string b.1, .string b.2], .agg #[.string c.1, .string c.2]] w fun e w' => e = .returned (.bool (decide (b = c))) ∧ Below w.heap.size w w' := by
  have HBA : Hid (Below w.heap.size w ((w.alloc (.cells #[.string b.1, .string b.2] 42)).alloc (.cells #[.string c.1, .string c.2] 42))) := ((Below.refl _ _).alloc (Nat.le_refl _) _).alloc (by simp) _
  obtain ⟨b1, b2⟩ := b
  obtain ⟨c1, c2⟩ := c
  simp only
  by_cases h1 : b1 = c1
  · subst h1
    by_cases h2 : b2 = c2
    · subst h2
      have hE : decide ((b1, b2) = (b1, b2)) = true := by simp
      go_enter Try.func67, Try.ntmps67
      go_wp2_with fail
      go_ret
      exact ⟨by first | exact ret_bool' hE.symm | rfl, unhide HBA⟩
    · have hE : decide ((b1, b2) = (b1, c2)) = false := by simp [h2]
      have hnk : (b2.toList == c2.toList) = false := by
        cases q : (b2.toList == c2.toList) with
        | false => rfl
        | true => exact absurd (toList_eq.1 q) h2
      go_enter Try.func67, Try.ntmps67
      go_wp2_with fail
      go_ret
      exact ⟨by first | exact ret_bool' hE.symm | rfl, unhide HBA⟩
  · have hE : decide ((b1, b2) = (c1, c2)) = false := by simp [h1]
    have hnk : (b1.toList == c1.toList) = false := by
      cases q : (b1.toList == c1.toList) with
      | false => rfl
      | true => exact absurd (toList_eq.1 q) h1
    go_enter Try.func67, Try.ntmps67
    go_wp2_with fail
    go_ret
    exact ⟨by first | exact ret_bool' hE.symm | rfl, unhide HBA⟩

#print axioms szKnwBoxS_any
#print axioms eqKnwBox_any
end Go.Proofs.Ytjdpabiodalfkaa
