/-
  The program's TreSide: both places under one, and the one beside.
-/
import Derived.Test.YtenjkhabcpfnaaaPlc
namespace Go.Proofs.Ytenjkhabcpfnaaa
open Go.RowKit

theorem wrap_small (n : Int) (h0 : -1000 ≤ n) (h : n ≤ 1000) : IntKind.i64.wrap n = n := by simp [IntKind.wrap, IntKind.bits, IntKind.signed]; omega

set_option maxHeartbeats 400000 in
theorem under_any (p : Int) (h0 : -10 ≤ p) (h1 : p ≤ 20) (w : World) : Calls Try.prog 48 #[.int .i64 p] w fun e w' => e = .returned (.agg #[.int .i64 (2 * p + 1), .int .i64 (2 * p + 2)]) ∧ Below w.heap.size w w' := by
  have i1 := wrap_small (2 * p) (by omega) (by omega)
  have i2 := wrap_small (2 * p + 1) (by omega) (by omega)
  have i3 := wrap_small (2 * p + 2) (by omega) (by omega)
  clear h0 h1
  go_enter Try.func48, Try.ntmps48
  go_wp2_with fail
  refine bodyPost_ret (v := .agg #[.int .i64 (2 * p + 1), .int .i64 (2 * p + 2)]) (by simp [results, Try.results48, go_sem]) rfl ⟨rfl, ?_⟩
  exact (Below.refl _ _).alloc (Nat.le_refl _) _

set_option maxHeartbeats 1000000 in
theorem beside_any (p : Int) (w : World) : Calls Try.prog 37 #[.int .i64 p] w fun e w' => e = .returned (.int .i64 (sideOf p)) ∧ Below w.heap.size w w' := by
  by_cases h : 1 ≤ p ∧ p ≤ 14
  · have ho : overOf p = (p - 1) / 2 := by unfold overOf; rw [if_pos h]
    by_cases hp : p % 2 = 1
    · have hs : sideOf p = p + 1 := by unfold sideOf; rw [if_pos h, if_pos hp]
      have e1 : 2 * ((p - 1) / 2) + 1 = p := by omega
      have e2 : 2 * ((p - 1) / 2) + 2 = p + 1 := by omega
      have hn : (((p - 1) / 2 : Int) == -1) = false := by simp; omega
      have hb : -10 ≤ (p - 1) / 2 ∧ (p - 1) / 2 ≤ 20 := by omega
      rw [hs]
      have O := hide ho
      have HB := hide hb
      clear h ho hp hs hb
      go_enter Try.func37, Try.ntmps37
      go_wp2_with fail
      refine (over_any _ _).mono ?_
      rintro e w1 ⟨rfl, rfl⟩
      rw [O.out]
      generalize (p - 1) / 2 = o at e1 e2 hn HB
      go_wp2_with fail
      refine (under_any o HB.out.1 HB.out.2 _).mono ?_
      rintro e w2 ⟨rfl, hb2⟩
      rw [e1, e2]
      clear e1 e2 HB O hn
      go_wp2_with fail
      go_ret
      exact ⟨rfl, hb2.alloc (by have := hb2.size; omega) _⟩
    · have hs : sideOf p = p - 1 := by unfold sideOf; rw [if_pos h, if_neg hp]
      have e1 : 2 * ((p - 1) / 2) + 1 = p - 1 := by omega
      have e2 : 2 * ((p - 1) / 2) + 2 = p := by omega
      have hn : (((p - 1) / 2 : Int) == -1) = false := by simp; omega
      have hb : -10 ≤ (p - 1) / 2 ∧ (p - 1) / 2 ≤ 20 := by omega
      have hq : (p == p - 1) = false := by simp; omega
      rw [hs]
      have O := hide ho
      have HB := hide hb
      clear h ho hp hs hb
      go_enter Try.func37, Try.ntmps37
      go_wp2_with fail
      refine (over_any _ _).mono ?_
      rintro e w1 ⟨rfl, rfl⟩
      rw [O.out]
      generalize (p - 1) / 2 = o at e1 e2 hn HB
      go_wp2_with fail
      refine (under_any o HB.out.1 HB.out.2 _).mono ?_
      rintro e w2 ⟨rfl, hb2⟩
      rw [e1, e2]
      clear e1 e2 HB O hn
      go_wp2_with fail
      go_ret
      exact ⟨rfl, hb2.alloc (by have := hb2.size; omega) _⟩
  · have hs : sideOf p = -1 := by unfold sideOf; rw [if_neg h]
    have ho : overOf p = -1 := by unfold overOf; rw [if_neg h]
    rw [hs]
    have O := hide ho
    clear h hs ho
    go_enter Try.func37, Try.ntmps37
    go_wp2_with fail
    refine (over_any _ _).mono ?_
    rintro e w1 ⟨rfl, rfl⟩
    rw [O.out]
    go_wp2_with fail
    go_ret
    exact ⟨rfl, Below.refl _ _⟩

set_option maxHeartbeats 400000 in
theorem iTreSide_any (p : Int) (w : World) : Calls Try.prog 14 #[.int .i64 p] w fun e w' => e = .returned (.int .i64 (sideOf p)) ∧ Below w.heap.size w w' := by
  go_enter Try.func14, Try.ntmps14
  go_wp2_with fail
  refine (beside_any _ _).mono ?_
  rintro e w1 ⟨rfl, hb⟩
  go_wp2_with fail
  go_ret
  exact ⟨rfl, hb⟩
#print axioms iTreSide_any
end Go.Proofs.Ytenjkhabcpfnaaa
