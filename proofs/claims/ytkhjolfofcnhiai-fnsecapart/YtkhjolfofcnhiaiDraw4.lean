/-
  What the drawn texts of chapter 1 come to: each draw returns, and nothing that was there is written.
-/
import Derived.Test.YtkhjolfofcnhiaiDraw3
namespace Go.Proofs.Ytkhjolfofcnhiai
open Go.RowKit

set_option maxHeartbeats 400000 in
theorem DrawSecMade_any (a : Option Addr) (len cap : Nat) (zs : List Int) (w : World) (h : IsRow .u8 w a len cap zs) :
    Calls Try.prog 6 #[.slice a len cap] w fun e w' => ∃ s : ByteArray, e = .returned (.string s) ∧ s.size ≤ 700 ∧ Below w.heap.size w w' := by
  have hR := hide h
  clear h
  go_enter Try.func6, Try.ntmps6
  go_wp2_with fail
  refine (l20Open_any a len cap zs _ (unhide hR)).mono ?_
  rintro e w1 ⟨C, rfl, d1, hb1⟩
  have D1 := hide d1
  clear d1
  go_wp2_with fail
  refine (l20SecretOr_any w.heap.size C 0 5 _ rfl _ (unhide D1) (by omega) (by omega) (by omega)).mono ?_
  rintro e w2 ⟨s, q, rfl, hs, hq, d2, x2⟩
  go_wp2_with fail
  go_ret
  exact ⟨s, rfl, hs, hb1.trans (x2.below (Nat.le_refl _) hb1.size)⟩

set_option maxHeartbeats 400000 in
theorem DrawMakNext_any (a : Option Addr) (len cap : Nat) (zs : List Int) (w : World) (h : IsRow .u8 w a len cap zs) :
    Calls Try.prog 12 #[.slice a len cap] w fun e w' => ∃ s : ByteArray, e = .returned (.string s) ∧ s.size ≤ 700 ∧ Below w.heap.size w w' := by
  have hR := hide h
  clear h
  go_enter Try.func12, Try.ntmps12
  go_wp2_with fail
  refine (l20Open_any a len cap zs _ (unhide hR)).mono ?_
  rintro e w1 ⟨C, rfl, d1, hb1⟩
  have D1 := hide d1
  clear d1
  go_wp2_with fail
  refine (l20SecretOr_any w.heap.size C 0 4 _ rfl _ (unhide D1) (by omega) (by omega) (by omega)).mono ?_
  rintro e w2 ⟨s, q, rfl, hs, hq, d2, x2⟩
  go_wp2_with fail
  go_ret
  exact ⟨s, rfl, hs, hb1.trans (x2.below (Nat.le_refl _) hb1.size)⟩

set_option maxHeartbeats 400000 in
theorem keOk_any (w : World) : Calls Try.prog 10 #[] w fun e w' => e = .returned (.bool true) ∧ Below w.heap.size w w' := by
  have hk : Hid (Kw.ok ⟨#[65, 49, 59]⟩ = true) := by show Kw.ok _ = true; decide +kernel
  go_enter Try.func10, Try.ntmps10
  go_wp2_with fail
  refine (iSecOk_any ⟨#[65, 49, 59]⟩ _ (le_maxLen (by decide))).mono ?_
  rw [hk.out]
  rintro e w1 ⟨rfl, hb1⟩
  go_wp2_with fail
  go_ret
  exact ⟨rfl, hb1⟩

#print axioms keOk_any
end Go.Proofs.Ytkhjolfofcnhiai
