/-
  The spec's places: TreSide, TreMeet.
-/
import Derived.Test.YtenjkhabcpfnaaaTreS
namespace Go.Proofs.Ytenjkhabcpfnaaa
open Go.RowKit

set_option maxHeartbeats 400000 in
theorem sTreSide_any (n : Int) (w : World) :
    Calls Try.prog 17 #[.int .i64 n] w fun e w' => e = .returned (.int .i64 (sideOf n)) ∧ w' = w := by
  by_cases h : 1 ≤ n ∧ n ≤ 14
  · have hh := hide h
    by_cases ho : n % 2 = 1
    · have hl : sideOf n = n + 1 := by unfold sideOf; rw [if_pos h, if_pos ho]
      rw [hl]
      have i1 : IntKind.i64.wrap (n + 1) = n + 1 := by simp [IntKind.wrap, IntKind.bits, IntKind.signed]; omega
      have i2 : IntKind.i64.wrap (n.tmod 2) = 1 := by rw [Int.tmod_eq_emod_of_nonneg (by omega), ho]; rfl
      have i3 : n.tmod 2 = 1 := by rw [Int.tmod_eq_emod_of_nonneg (by omega), ho]
      clear hl h ho
      go_enter Try.func17, Try.ntmps17
      go_wp2_with fail
      refine (l1In_yes _ _ _ _ (hh.out.1) (hh.out.2)).mono ?_
      rintro e w1 ⟨rfl, rfl⟩
      go_wp2_with fail
      go_ret
      exact ⟨rfl, rfl⟩
    · have hl : sideOf n = n - 1 := by unfold sideOf; rw [if_pos h, if_neg ho]
      rw [hl]
      have i1 : IntKind.i64.wrap (n - 1) = n - 1 := by simp [IntKind.wrap, IntKind.bits, IntKind.signed]; omega
      have i2 : IntKind.i64.wrap (n.tmod 2) = 0 := by rw [Int.tmod_eq_emod_of_nonneg (by omega), show n % 2 = 0 by omega]; rfl
      have i3 : n.tmod 2 = 0 := by rw [Int.tmod_eq_emod_of_nonneg (by omega)]; omega
      clear hl h ho
      go_enter Try.func17, Try.ntmps17
      go_wp2_with fail
      refine (l1In_yes _ _ _ _ (hh.out.1) (hh.out.2)).mono ?_
      rintro e w1 ⟨rfl, rfl⟩
      go_wp2_with fail
      go_ret
      exact ⟨rfl, rfl⟩
  · have hl : sideOf n = -1 := by unfold sideOf; rw [if_neg h]
    rw [hl]
    have hh := hide h
    clear hl h
    go_enter Try.func17, Try.ntmps17
    go_wp2_with fail
    refine (l1In_no _ _ _ _ (by have := hh.out; omega)).mono ?_
    rintro e w1 ⟨rfl, rfl⟩
    go_wp2_with fail
    go_ret
    exact ⟨rfl, rfl⟩

set_option maxHeartbeats 1000000 in
theorem sTreMeet_any (a b : Int) (w : World) :
    Calls Try.prog 21 #[.int .i64 a, .int .i64 b] w fun e w' => e = .returned (.int .i64 (meetOf a b)) ∧ w' = w := by
  by_cases h : (0 ≤ a ∧ a ≤ 14) ∧ 0 ≤ b ∧ b ≤ 14
  · obtain ⟨x, rfl⟩ : ∃ k : Nat, a = (k : Int) := ⟨a.toNat, by omega⟩
    obtain ⟨y, rfl⟩ : ∃ k : Nat, b = (k : Int) := ⟨b.toNat, by omega⟩
    have hx : x < 15 := by omega
    have hy : y < 15 := by omega
    have hl : meetOf (x : Int) (y : Int) = (meets x y : Int) := by unfold meetOf; rw [if_pos h]; rfl
    rw [hl]
    clear hl h
    go_enter Try.func21, Try.ntmps21
    go_wp2_with fail
    refine (l1In_yes _ _ _ _ (by omega) (by omega)).mono ?_
    rintro e w1 ⟨rfl, rfl⟩
    go_wp2_with fail
    refine (l1In_yes _ _ _ _ (by omega) (by omega)).mono ?_
    rintro e w1 ⟨rfl, rfl⟩
    go_wp2_with fail
    go_loopw [0, 1] (fun i j wr => ∃ a b : Nat, a < 15 ∧ b < 15 ∧ i = .int .i64 (a : Int) ∧ j = .int .i64 (b : Int) ∧ Hid (meets a b = meets x y) ∧ wr = w1) (fun i j _ => (intOf i).toNat + (intOf j).toNat)
    case atStart => exact ⟨x, y, hx, hy, rfl, rfl, rfl, rfl⟩
    case round =>
      obtain ⟨a, b, ha, hb, rfl, rfl, hm, rfl⟩ := hrel
      clear hx hy
      by_cases hab : a = b
      · subst hab
        have e : Hid (meets x y = a) := by show meets x y = a; rw [← hm.out, meets_self a ha]
        have e2 : ((a : Int) != (a : Int)) = false := by simp
        go_wp2_with fail
        go_ret
        exact ⟨by rw [e.out]; rfl, rfl⟩
      · have hne : ((a : Int) != (b : Int)) = true := by simp; omega
        have hne2 : ¬ ((a : Int) = (b : Int)) := by omega
        have hne3 : (!decide ((a : Int) = (b : Int))) = true := by simp; omega
        by_cases hlt : b < a
        · have h1 : (b : Int) < (a : Int) := by omega
          obtain ⟨i1, i2⟩ := half_wrap a (by omega) ha
          have hs : Hid (meets ((a - 1) / 2) b = meets x y) := by show _ = _; rw [← hm.out, meets_left a ha b hb hlt]
          have hp : (a - 1) / 2 < 15 := by omega
          have hpk : (a - 1) / 2 < a := by omega
          generalize (a - 1) / 2 = q at i2 hs hp hpk
          go_wp2_with fail
          go_roundw
          case rel => exact ⟨q, b, hp, hb, rfl, rfl, hs, trivial⟩
          case measure => simp [intOf]; omega
        · have h1 : decide ((b : Int) < (a : Int)) = false := by simp; omega
          obtain ⟨i1, i2⟩ := half_wrap b (by omega) hb
          have hs : Hid (meets a ((b - 1) / 2) = meets x y) := by show _ = _; rw [← hm.out, meets_right a ha b hb (by omega)]
          have hp : (b - 1) / 2 < 15 := by omega
          have hpk : (b - 1) / 2 < b := by omega
          generalize (b - 1) / 2 = q at i2 hs hp hpk
          go_wp2_with fail
          go_roundw
          case rel => exact ⟨a, q, ha, hp, rfl, rfl, hs, trivial⟩
          case measure => simp [intOf]; omega
  · have hl : meetOf a b = -1 := by unfold meetOf; rw [if_neg h]
    rw [hl]
    have hh := hide h
    clear hl h
    by_cases ha : 0 ≤ a ∧ a ≤ 14
    · go_enter Try.func21, Try.ntmps21
      go_wp2_with fail
      refine (l1In_yes _ _ _ _ (by omega) (by omega)).mono ?_
      rintro e w1 ⟨rfl, rfl⟩
      go_wp2_with fail
      refine (l1In_no _ _ _ _ (by have := hh.out; omega)).mono ?_
      rintro e w1 ⟨rfl, rfl⟩
      go_wp2_with fail
      go_ret
      exact ⟨rfl, rfl⟩
    · go_enter Try.func21, Try.ntmps21
      go_wp2_with fail
      refine (l1In_no _ _ _ _ (by have := hh.out; omega)).mono ?_
      rintro e w1 ⟨rfl, rfl⟩
      go_wp2_with fail
      go_ret
      exact ⟨rfl, rfl⟩
end Go.Proofs.Ytenjkhabcpfnaaa
